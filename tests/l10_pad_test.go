package tests

import (
	"bytes"
	"fmt"
	"slices"
	"sync"
	"testing"

	"loop.example/g00473/impl"
)

// padSizes are notes where a step is just filled, where it turns, and the longest, with how long they are padded.
var padSizes = []struct{ many, want int }{
	{0, 32}, {1, 32}, {29, 32}, {30, 32}, {31, 64}, {61, 64}, {62, 64}, {63, 96}, {93, 96}, {94, 96},
	{95, 192}, {96, 192}, {126, 192}, {127, 192}, {158, 192}, {159, 192}, {189, 192}, {190, 192},
	{191, 288}, {192, 288}, {199, 288}, {200, 288},
}

// paddedSize goes up step by step, without a remainder.
func paddedSize(many int) int {
	step := 32
	if many > 94 {
		step = 96
	}
	size := 0
	for size < many+2 {
		size += step
	}
	return size
}

// laid is a text of so many bytes that says of itself how many bytes of note it has; it knows no limits.
func laid(says int, note []byte, size int) []byte {
	text := make([]byte, max(size, 2+len(note)))
	text[0], text[1] = byte(says/256), byte(says%256)
	copy(text[2:], note)
	return text[:size]
}

func paddedOf(note []byte) []byte { return laid(len(note), note, paddedSize(len(note))) }

// notesOf are of so many bytes each: of any, of bytes 0, which look like filling, of bytes 255, and such as begin or end with a 0.
func notesOf(many int) [][]byte {
	list := [][]byte{someBytes(many), make([]byte, many), bytes.Repeat([]byte{255}, many)}
	if many > 0 {
		first, last := bytes.Repeat([]byte{1}, many), bytes.Repeat([]byte{1}, many)
		first[0], last[many-1] = 0, 0
		list = append(list, first, last)
	}
	return list
}

func checkPadded(t *testing.T, note []byte) []byte {
	t.Helper()
	got := impl.Padded(note)
	if want := paddedOf(note); !bytes.Equal(got, want) {
		t.Fatalf("Padded of %d bytes %x = %x, want %x", len(note), note, got, want)
	}
	return got
}

// checkFound holds promise 10 at a text that is padded.
func checkFound(t *testing.T, text, want []byte) {
	t.Helper()
	if got, ok := impl.Unpadded(text); !ok || !bytes.Equal(got, want) {
		t.Fatalf("Unpadded(%x) = %x, %t, want %x, true", text, got, ok, want)
	}
}

func checkNotFound(t *testing.T, what string, text []byte) {
	t.Helper()
	if got, ok := impl.Unpadded(text); ok || len(got) != 0 {
		t.Fatalf("%s: Unpadded(%x) = %x, %t, want nothing and false", what, text, got, ok)
	}
}

func TestPadLimits(t *testing.T) {
	if impl.MaxNote != 200 || impl.StepSmall != 32 || impl.StepGreat != 96 {
		t.Errorf("MaxNote is %d, StepSmall %d, StepGreat %d", impl.MaxNote, impl.StepSmall, impl.StepGreat)
	}
}

func TestPadded(t *testing.T) {
	for _, c := range []struct{ note, want string }{
		{"", "0000000000000000000000000000000000000000000000000000000000000000"},
		{"00", "0001000000000000000000000000000000000000000000000000000000000000"},
		{"6869", "0002686900000000000000000000000000000000000000000000000000000000"},
		{"0102030405060708090a0b0c0d0e0f101112131415161718191a1b1c1d1e", "001e0102030405060708090a0b0c0d0e0f101112131415161718191a1b1c1d1e"},
		{"0102030405060708090a0b0c0d0e0f101112131415161718191a1b1c1d1e1f", "001f0102030405060708090a0b0c0d0e0f101112131415161718191a1b1c1d1e1f00000000000000000000000000000000000000000000000000000000000000"},
	} {
		note := unhexed(t, c.note)
		if got := impl.Hex(impl.Padded(note)); got != c.want {
			t.Errorf("Padded of %q = %s, want %s", c.note, got, c.want)
		}
		checkFound(t, unhexed(t, c.want), note)
	}
}

// Promise 10 where a step is just filled, where it turns, and at the longest note.
func TestWhatIsPaddedIsFoundAtTheEdges(t *testing.T) {
	for _, c := range padSizes {
		for _, note := range notesOf(c.many) {
			text := checkPadded(t, note)
			if len(text) != c.want {
				t.Fatalf("Padded of %d bytes has %d, want %d", c.many, len(text), c.want)
			}
			checkFound(t, text, note)
		}
	}
}

// Promise 10 of each length, and of each byte at each place.
func TestWhatIsPaddedIsFound(t *testing.T) {
	for many := range impl.MaxNote + 1 {
		for _, note := range notesOf(many) {
			checkFound(t, checkPadded(t, note), note)
		}
	}
	for _, c := range padSizes {
		for place := range c.many {
			for value := range 256 {
				note := make([]byte, c.many)
				note[place] = byte(value)
				checkFound(t, checkPadded(t, note), note)
			}
		}
	}
}

func TestNothingAndNilArePaddedAlike(t *testing.T) {
	for _, none := range [][]byte{nil, {}, make([]byte, 0, 50), someBytes(50)[:0]} {
		if got := impl.Padded(none); !bytes.Equal(got, make([]byte, 32)) {
			t.Errorf("Padded of nothing = %x, want 32 bytes 0", got)
		}
	}
	checkFound(t, make([]byte, 32), nil)
}

// How long a padded note is tells its step alone: there are five sizes.
func TestPaddedTellsTheStepAlone(t *testing.T) {
	many := map[int]int{}
	for length := range impl.MaxNote + 1 {
		many[len(impl.Padded(make([]byte, length)))]++
	}
	want := map[int]int{32: 31, 64: 32, 96: 32, 192: 96, 288: 10}
	if fmt.Sprint(many) != fmt.Sprint(want) {
		t.Errorf("so many lengths a size: %v, want %v", many, want)
	}
}

func TestNoTwoNotesArePaddedAlike(t *testing.T) {
	seen := map[string][]byte{}
	for many := range impl.MaxNote + 1 {
		for _, note := range notesOf(many) {
			text := string(impl.Padded(note))
			if other, ok := seen[text]; ok && !bytes.Equal(other, note) {
				t.Fatalf("%x and %x are padded alike", other, note)
			}
			seen[text] = note
		}
	}
}

func TestPaddedOfTooLongNotes(t *testing.T) {
	lengths := []int{254, 255, 256, 257, 285, 286, 287, 382, 4000, 65535, 65536, 65537, 65538, 65566, 65736, 131072}
	for many := impl.MaxNote + 1; many < 300; many++ {
		lengths = append(lengths, many)
	}
	for _, many := range lengths {
		for _, note := range notesOf(many) {
			if got := impl.Padded(note); len(got) != 0 {
				t.Errorf("Padded of %d bytes = %x, want nothing", many, got)
			}
		}
	}
}

// What such a note would be padded to is not found either, whatever the step.
func TestUnpaddedOfTooLongNotes(t *testing.T) {
	for _, many := range []int{201, 202, 222, 254, 255, 256, 257, 286, 287, 382, 456, 457, 4000, 65533, 65535} {
		for _, note := range notesOf(many) {
			for _, step := range []int{1, 32, 96} {
				size := (many + 2 + step - 1) / step * step
				checkNotFound(t, fmt.Sprint(many, " bytes by ", step), laid(many, note, size))
			}
		}
	}
}

func TestUnpaddedOfNextToNothing(t *testing.T) {
	checkNotFound(t, "nil", nil)
	checkNotFound(t, "nothing", []byte{})
	for first := range 256 {
		checkNotFound(t, "one byte", []byte{byte(first)})
		// The bytes behind it are no part of it.
		checkNotFound(t, "one byte with room behind it", append([]byte{byte(first)}, make([]byte, 31)...)[:1])
		for second := range 256 {
			checkNotFound(t, "two bytes", []byte{byte(first), byte(second)})
		}
	}
}

// Of bytes 0, whatever they say of themselves, it is the size alone that is right or not.
func TestUnpaddedOfWhatIsSaid(t *testing.T) {
	for _, whole := range []int{32, 64, 96, 128, 160, 192, 224, 256, 288, 320, 384} {
		for _, size := range []int{whole - 1, whole, whole + 1} {
			for says := range 65536 {
				text := laid(says, nil, size)
				if says <= impl.MaxNote && paddedSize(says) == size {
					checkFound(t, text, make([]byte, says))
				} else {
					checkNotFound(t, fmt.Sprint(says, " bytes are said"), text)
				}
			}
		}
	}
}

func TestUnpaddedOfEachSize(t *testing.T) {
	for many := range impl.MaxNote + 1 {
		for _, note := range notesOf(many) {
			for size := range 400 {
				text := laid(many, note, size)
				if size == paddedSize(many) {
					checkFound(t, text, note)
				} else {
					checkNotFound(t, fmt.Sprint(many, " bytes in ", size), text)
				}
			}
		}
	}
}

// What says more bytes than there are, though behind it there is room with bytes in it.
func TestUnpaddedDoesNotReadBehind(t *testing.T) {
	for _, c := range padSizes {
		text := slices.Concat(paddedOf(someBytes(c.many)), someBytes(400))
		for size := range c.want {
			checkNotFound(t, fmt.Sprint(c.many, " bytes cut to ", size), text[:size])
		}
		checkFound(t, text[:c.want], someBytes(c.many))
	}
}

func TestUnpaddedOfAStepTooLong(t *testing.T) {
	for many := range impl.MaxNote + 1 {
		text := paddedOf(someBytes(many))
		for _, more := range []int{1, 2, 16, 32, 64, 96, 192, 288} {
			checkNotFound(t, fmt.Sprint(many, " bytes and ", more, " more"), slices.Concat(text, make([]byte, more)))
		}
		checkNotFound(t, "twice", slices.Concat(text, text))
		checkNotFound(t, "with a byte ahead", slices.Concat([]byte{0}, text))
	}
}

// What is filled up by the step that is not its own, where that makes another size.
func TestUnpaddedOfTheOtherStep(t *testing.T) {
	seen := 0
	for many := range impl.MaxNote + 1 {
		step := 96
		if many > 94 {
			step = 32
		}
		size := (many + 2 + step - 1) / step * step
		for _, note := range notesOf(many) {
			text := laid(many, note, size)
			if size == paddedSize(many) {
				checkFound(t, text, note)
				continue
			}
			seen++
			checkNotFound(t, fmt.Sprint(many, " bytes by ", step), text)
		}
	}
	if seen == 0 {
		t.Error("no note is padded otherwise by the other step")
	}
}

// Each filling byte is a 0, and nothing else.
func TestUnpaddedOfAnotherFilling(t *testing.T) {
	for _, c := range padSizes {
		for _, note := range notesOf(c.many) {
			text := paddedOf(note)
			for place := 2 + c.many; place < c.want; place++ {
				for mask := 1; mask < 256; mask++ {
					checkNotFound(t, fmt.Sprint(c.many, " bytes, filled otherwise at ", place), bent(text, place, byte(mask)))
				}
			}
			for place := 2 + c.many; place+1 < c.want; place++ {
				// Two that make up for each other.
				checkNotFound(t, "two filled otherwise", bent(bent(text, place, 128), place+1, 128))
			}
		}
	}
}

// A byte of the note that is another is found as it is: nothing seals it here.
func TestUnpaddedOfAnotherNote(t *testing.T) {
	for _, c := range padSizes {
		note := someBytes(c.many)
		for place := range note {
			checkFound(t, bent(paddedOf(note), 2+place, 1), bent(note, place, 1))
		}
	}
}

// A length that is another: one byte less leaves the last one to the filling, one more takes a byte 0 of it.
func TestUnpaddedOfAnotherLength(t *testing.T) {
	for many := range impl.MaxNote + 1 {
		note, size := bytes.Repeat([]byte{7}, many), paddedSize(many)
		for says := range 300 {
			text := laid(says, note, size)
			if says >= many && says <= impl.MaxNote && paddedSize(says) == size {
				checkFound(t, text, slices.Concat(note, make([]byte, says-many)))
			} else {
				checkNotFound(t, fmt.Sprint(many, " bytes of which ", says, " are said"), text)
			}
		}
	}
}

// The two bytes are great: read little they would say another length.
func TestUnpaddedReadsItsLengthGreat(t *testing.T) {
	for many := 1; many <= impl.MaxNote; many++ {
		text := paddedOf(bytes.Repeat([]byte{7}, many))
		text[0], text[1] = text[1], text[0]
		checkNotFound(t, fmt.Sprint(many, " bytes, said little"), text)
		for high := 1; high < 256; high++ {
			other := paddedOf(bytes.Repeat([]byte{7}, many))
			other[0] = byte(high)
			checkNotFound(t, fmt.Sprint(many, " bytes and ", high, " times 256"), other)
		}
	}
}

func TestPadOfManyAtATime(t *testing.T) {
	var all sync.WaitGroup
	for range 16 {
		all.Go(func() {
			for many := range impl.MaxNote + 1 {
				note := someBytes(many)
				text := impl.Padded(note)
				got, ok := impl.Unpadded(text)
				if !ok || !bytes.Equal(text, paddedOf(note)) || !bytes.Equal(got, note) {
					t.Errorf("%d bytes are padded to %x and found as %x, %t", many, text, got, ok)
				}
			}
		})
	}
	all.Wait()
}

func TestPadLeavesItsArgumentsAlone(t *testing.T) {
	// Bytes 255 stand behind, which filling up in place would write over.
	backing := bytes.Repeat([]byte{255}, 400)
	for many := range 300 {
		impl.Padded(backing[:many])
		impl.Unpadded(backing[:many])
	}
	if !bytes.Equal(backing, bytes.Repeat([]byte{255}, 400)) {
		t.Errorf("bytes turned into %x", backing)
	}
	for many := range impl.MaxNote + 1 {
		text := slices.Concat(paddedOf(someBytes(many)), backing)
		kept := bytes.Clone(text)
		for _, size := range []int{2, 2 + many, paddedSize(many) - 1, paddedSize(many), paddedSize(many) + 1} {
			impl.Unpadded(text[:size])
		}
		if !bytes.Equal(text, kept) {
			t.Errorf("%x turned into %x", kept, text)
		}
	}
}

func TestPadAnswersAnewEachTime(t *testing.T) {
	for _, c := range padSizes {
		note, text := someBytes(c.many), paddedOf(someBytes(c.many))
		checkAnew(t, "Padded", func() []byte { return impl.Padded(note) })
		checkAnew(t, "Unpadded", func() []byte { answer, _ := impl.Unpadded(text); return answer })
		if !bytes.Equal(note, someBytes(c.many)) || !bytes.Equal(text, paddedOf(someBytes(c.many))) {
			t.Fatalf("an answer of %d bytes shares memory with what was given", c.many)
		}
	}
}
