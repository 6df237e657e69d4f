package tests

import (
	"bytes"
	"fmt"
	"math"
	"math/rand"
	"slices"
	"sync"
	"testing"

	"loop.example/g00473/impl"
)

func sameLists(a, b [][]byte) bool { return slices.EqualFunc(a, b, bytes.Equal) }

func sameReader(a, b impl.Reader) bool {
	return bytes.Equal(a.Seed, b.Seed) && a.Epoch == b.Epoch && sameLists(a.Seen, b.Seen) && sameLists(a.Got, b.Got)
}

func clonedLists(list [][]byte) [][]byte {
	var other [][]byte
	for _, b := range list {
		other = append(other, bytes.Clone(b))
	}
	return other
}

func clonedReader(r impl.Reader) impl.Reader {
	return impl.Reader{Seed: bytes.Clone(r.Seed), Epoch: r.Epoch, Seen: clonedLists(r.Seen), Got: clonedLists(r.Got)}
}

// shownReader tells a reader in a line, however much it has seen.
func shownReader(r impl.Reader) string {
	return fmt.Sprintf("{seed %d:%.8x epoch %d seen %d:%.8x got %d:%.12q}", len(r.Seed), r.Seed, r.Epoch, len(r.Seen), r.Seen[:min(len(r.Seen), 25)], len(r.Got), r.Got[:min(len(r.Got), 25)])
}

// readerFits is ReaderOk once more, by texts.
func readerFits(r impl.Reader) bool {
	if len(r.Seed) != 32 || r.Epoch < 0 || r.Epoch > 40 || len(r.Seen) > 20 || len(r.Seen) != len(r.Got) {
		return false
	}
	seen := map[string]bool{}
	for i := range r.Seen {
		if len(r.Seen[i]) > 1560 || len(r.Got[i]) > 200 {
			return false
		}
		seen[string(r.Seen[i])] = true
	}
	return len(seen) == len(r.Seen)
}

// openedBy is the note under the seal of a letter's bytes, by the library; it wants what is as long as a letter.
func openedBy(t *testing.T, secret, b []byte) ([]byte, bool) {
	t.Helper()
	head, from, box := b[:35], b[3:35], b[35:]
	shared := libraryPoint(t, secret, from)
	if bytes.Equal(shared, make([]byte, 32)) {
		return nil, false
	}
	key, nonce := keysOf(t, shared, from, publicPoint(t, secret))
	plain := streamOf(key, 1, nonce, box[:len(box)-16])
	if !bytes.Equal(sealOf(key, nonce, head, plain), box) {
		return nil, false
	}
	for many := range min(201, max(len(plain)-1, 0)) {
		if bytes.Equal(paddedOf(plain[2:2+many]), plain) {
			return plain[2 : 2+many], true
		}
	}
	return nil, false
}

// hearBy is Hear once more, reason by reason.
func hearBy(t *testing.T, r impl.Reader, b []byte) (impl.Reader, int) {
	t.Helper()
	if !readerFits(r) || len(b) < 51 || len(b) > 1551 || b[0] != 1 {
		return impl.Reader{}, 1
	}
	for _, seen := range r.Seen {
		if bytes.Equal(seen, b) {
			return impl.Reader{}, 3
		}
	}
	epoch := int(b[1])<<8 + int(b[2])
	if epoch != r.Epoch && epoch+1 != r.Epoch {
		return impl.Reader{}, 2
	}
	if len(r.Seen) == 20 {
		return impl.Reader{}, 4
	}
	note, ok := openedBy(t, []byte(libraryKeysAt(t, r.Seed, epoch).secret), b)
	if !ok {
		return impl.Reader{}, 5
	}
	after := clonedReader(r)
	after.Seen, after.Got = append(after.Seen, b), append(after.Got, note)
	return after, 0
}

// checkHeard holds what is answered; it hands on the reader behind it, which is the old one where it is refused.
func checkHeard(t *testing.T, what string, r impl.Reader, b []byte) (impl.Reader, int) {
	t.Helper()
	want, wantCode := hearBy(t, r, b)
	after, code := impl.Hear(r, b)
	if code != wantCode || !sameReader(after, want) {
		t.Fatalf("%s: Hear(%s, %.40x) = %s, %d, want %s, %d", what, shownReader(r), b, shownReader(after), code, shownReader(want), wantCode)
	}
	if code != impl.RdDone {
		return r, code
	}
	checkReaderOk(t, what, after, true)
	return after, code
}

// checkHear holds which code is answered, too, and that beside one that refuses there is nothing.
func checkHear(t *testing.T, what string, r impl.Reader, b []byte, want int) impl.Reader {
	t.Helper()
	after, code := checkHeard(t, what, r, b)
	if code != want {
		t.Fatalf("%s: Hear(%s, %.40x) is answered by %d, want %d", what, shownReader(r), b, code, want)
	}
	if got, _ := impl.Hear(r, b); code != impl.RdDone && !sameReader(got, impl.Reader{}) {
		t.Fatalf("%s: beside %d there is %s", what, code, shownReader(got))
	}
	return after
}

func checkReaderOk(t *testing.T, what string, r impl.Reader, want bool) {
	t.Helper()
	if got := impl.ReaderOk(r); got != want || readerFits(r) != want {
		t.Fatalf("%s: ReaderOk(%s) = %t, want %t", what, shownReader(r), got, want)
	}
}

func checkAmong(t *testing.T, what string, r impl.Reader, b []byte, want bool) {
	t.Helper()
	if got := impl.Read(r, b); got != want {
		t.Fatalf("%s: Read(%s, %.40x) = %t", what, shownReader(r), b, got)
	}
}

// checkNext hands on the reader behind it.
func checkNext(t *testing.T, what string, r impl.Reader, want bool) impl.Reader {
	t.Helper()
	later := clonedReader(r)
	if want {
		later.Epoch++
	}
	got, ok := impl.Next(r)
	if ok != want || !sameReader(got, later) {
		t.Fatalf("%s: Next(%s) = %s, %t, want %s, %t", what, shownReader(r), shownReader(got), ok, shownReader(later), want)
	}
	return got
}

// checkNoReader holds what is answered of a reader that is not right, also by its next epoch.
func checkNoReader(t *testing.T, what string, r impl.Reader) {
	t.Helper()
	checkReaderOk(t, what, r, false)
	checkHear(t, what, r, letterFor(t, 1, alike(2), 0, "note"), impl.RdBad)
	checkHear(t, what, r, nil, impl.RdBad)
	for _, b := range r.Seen {
		checkAmong(t, what, r, b, true)
		checkHear(t, what, r, b, impl.RdBad)
	}
	checkNext(t, what, r, false)
}

func newReader(t *testing.T, seed []byte) impl.Reader {
	t.Helper()
	r, ok := impl.ReaderNew(seed)
	if !ok || !sameReader(r, impl.Reader{Seed: seed}) {
		t.Fatalf("ReaderNew(%x) = %s, %t", seed, shownReader(r), ok)
	}
	return r
}

func readerAt(t *testing.T, seed []byte, epoch int) impl.Reader {
	t.Helper()
	r := newReader(t, seed)
	for range epoch {
		r = checkNext(t, "on", r, true)
	}
	return r
}

// letterFor are the bytes of a letter, by the library, for the key that a seed has at an epoch that there is.
func letterFor(t *testing.T, mine byte, seed []byte, epoch int, note string) []byte {
	t.Helper()
	to := []byte(libraryKeysAt(t, seed, epoch).public)
	l := letterOf(t, alike(mine), to, epoch, []byte(note))
	return slices.Concat(headOf(epoch, l.From), l.Box)
}

// boxFor are likewise those of a letter with any text under its seal, of any epoch that two bytes tell.
func boxFor(t *testing.T, seed []byte, keyEpoch, epoch int, plain []byte) []byte {
	t.Helper()
	to := []byte(libraryKeysAt(t, seed, keyEpoch).public)
	l := boxed(t, libraryPoint(t, alike(1), to), publicPoint(t, alike(1)), to, epoch, plain)
	return slices.Concat(headOf(epoch, l.From), l.Box)
}

// someSeen are so many unlike ones, all shorter than a letter.
func someSeen(many int) [][]byte {
	var list [][]byte
	for i := range many {
		list = append(list, fmt.Append(nil, "seen ", i))
	}
	return list
}

// soManySeen is a reader that is right but, perhaps, for how many it has seen.
func soManySeen(many int) impl.Reader {
	r := impl.Reader{Seed: alike(2), Epoch: 1, Seen: someSeen(many)}
	for i := range many {
		r.Got = append(r.Got, fmt.Append(nil, "got ", i))
	}
	return r
}

func TestReaderLimits(t *testing.T) {
	if impl.MaxSeen != 20 {
		t.Error("MaxSeen is", impl.MaxSeen)
	}
	if codes := []int{impl.RdDone, impl.RdBad, impl.RdOld, impl.RdTwice, impl.RdFull, impl.RdSeal}; !slices.Equal(codes, []int{0, 1, 2, 3, 4, 5}) {
		t.Error("the codes are", codes)
	}
}

func TestANewReader(t *testing.T) {
	for _, seed := range append(edgeKeys(), someBytes(32), alike(2)) {
		r := newReader(t, seed)
		checkReaderOk(t, "a new one", r, true)
		checkAmong(t, "a new one", r, nil, false)
		checkAmong(t, "a new one", r, seed, false)
		checkNext(t, "a new one", r, true)
	}
	for _, many := range noSeedSizes {
		for _, seed := range [][]byte{someBytes(many), make([]byte, many, many+32)} {
			if r, ok := impl.ReaderNew(seed); ok || !sameReader(r, impl.Reader{}) {
				t.Errorf("ReaderNew of %d bytes = %s, %t, want zero and false", many, shownReader(r), ok)
			}
		}
	}
	if r, ok := impl.ReaderNew(alike(2)[:31]); ok || !sameReader(r, impl.Reader{}) {
		t.Errorf("ReaderNew of 31 bytes with room behind = %s, %t", shownReader(r), ok)
	}
	if r, ok := impl.ReaderNew(nil); ok || !sameReader(r, impl.Reader{}) {
		t.Errorf("ReaderNew(nil) = %s, %t", shownReader(r), ok)
	}
}

// The letters are written by the program here, as who writes and who reads are to fit together.
func TestAReaderStepByStep(t *testing.T) {
	seed := alike(2)
	written := func(mine byte, epoch int, note string) []byte {
		l, ok := impl.Write(alike(mine), impl.PublicOf(seed, epoch), epoch, []byte(note))
		if !ok {
			t.Fatalf("%q is not written", note)
		}
		return impl.LetterBytes(l)
	}
	r := newReader(t, seed)
	var seen [][]byte
	var got []string
	for i, c := range []struct {
		letter []byte
		note   string
		code   int
	}{
		{written(1, 0, "one"), "one", impl.RdDone},
		{written(1, 0, "one"), "", impl.RdTwice},
		{written(3, 1, "from the one to come"), "", impl.RdOld},
		{written(4, 0, ""), "", impl.RdDone},
		{written(5, 0, "one"), "one", impl.RdDone},
		{written(4, 0, ""), "", impl.RdTwice},
		{nil, "on", impl.RdDone},
		{written(1, 0, "one"), "", impl.RdTwice},
		{written(3, 1, "from the one to come"), "from the one to come", impl.RdDone},
		{written(6, 0, "late"), "late", impl.RdDone},
		{written(7, 2, "early"), "", impl.RdOld},
		{nil, "on", impl.RdDone},
		{written(8, 0, "too late"), "", impl.RdOld},
		{written(6, 0, "late"), "", impl.RdTwice},
		{written(7, 2, "early"), "early", impl.RdDone},
		{written(8, 1, "still"), "still", impl.RdDone},
	} {
		if c.letter == nil {
			r = checkNext(t, c.note, r, true)
			continue
		}
		checkAmong(t, "ahead of it", r, c.letter, c.code == impl.RdTwice)
		r = checkHear(t, fmt.Sprint("step ", i), r, c.letter, c.code)
		if c.code == impl.RdDone {
			seen, got = append(seen, c.letter), append(got, c.note)
			checkAmong(t, "behind it", r, c.letter, true)
		}
	}
	if !sameLists(r.Seen, seen) || len(r.Got) != len(got) {
		t.Fatalf("at the end there is %s", shownReader(r))
	}
	for i, note := range got {
		if string(r.Got[i]) != note {
			t.Errorf("at place %d it got %q, want %q", i, r.Got[i], note)
		}
	}
}

// Promise 16: at each epoch the letters for its key and for the one ahead of it are read, once each, and of all others none.
func TestAtEachEpochWhatIsCurrentIsReadOnce(t *testing.T) {
	seed := someBytes(32)
	var letters [][]byte
	for epoch := range impl.MaxEpoch + 1 {
		letters = append(letters, letterFor(t, byte(epoch), seed, epoch, fmt.Sprint("note ", epoch)))
	}
	for epoch := range impl.MaxEpoch + 1 {
		r := readerAt(t, seed, epoch)
		for other, letter := range letters {
			want := impl.RdOld
			if other == epoch || other == epoch-1 {
				want = impl.RdDone
			}
			r = checkHear(t, fmt.Sprint("at ", epoch, " of ", other), r, letter, want)
			if want == impl.RdDone {
				checkHear(t, "once more", r, letter, impl.RdTwice)
			}
		}
		var want []string
		for other := max(epoch-1, 0); other <= epoch; other++ {
			want = append(want, fmt.Sprint("note ", other))
		}
		if got := fmt.Sprintf("%s", r.Got); got != fmt.Sprint(want) || len(r.Seen) != len(want) {
			t.Fatalf("at %d it got %s, want %s", epoch, got, want)
		}
	}
}

// Promise 16 of one reader that goes on: what it read once it does not read again, neither while the key is there nor behind that.
func TestHeardTwiceItIsReadOnce(t *testing.T) {
	seed := alike(2)
	r := newReader(t, seed)
	var heard [][]byte
	for epoch := range 10 {
		for _, mine := range []byte{1, 3} {
			letter := letterFor(t, mine, seed, epoch, fmt.Sprint("note ", epoch, mine))
			r = checkHear(t, "the first time", r, letter, impl.RdDone)
			heard = append(heard, letter)
		}
		for _, letter := range heard {
			r = checkHear(t, "once more", r, letter, impl.RdTwice)
			checkAmong(t, "once more", r, letter, true)
		}
		r = checkNext(t, "on", r, true)
	}
	if !sameLists(r.Seen, heard) || len(r.Got) != 20 || string(r.Got[19]) != "note 9 3" {
		t.Fatalf("at the end there is %s", shownReader(r))
	}
}

// A letter that was not heard while its key was there is not read any more, however often the epoch goes on.
func TestOfKeysThatAreNoMoreNothingIsRead(t *testing.T) {
	seed := alike(2)
	for epoch := range 4 {
		letter := letterFor(t, 1, seed, epoch, "note")
		for at := range impl.MaxEpoch + 1 {
			want := impl.RdOld
			if at == epoch || at == epoch+1 {
				want = impl.RdDone
			}
			checkHear(t, fmt.Sprint("of ", epoch, " at ", at), readerAt(t, seed, at), letter, want)
		}
	}
}

// A letter may tell epochs that no reader has; two bytes of some of them are one's, the other way round.
func TestLettersOfEpochsThatNoReaderHas(t *testing.T) {
	seed := alike(2)
	for _, at := range keyEpochs {
		r := readerAt(t, seed, at)
		for _, epoch := range []int{41, 42, 127, 128, 255, 256, 296, 9984, 10240, 32768, 65495, 65534, 65535, at + 256, at << 8} {
			if epoch > 40 {
				checkHear(t, fmt.Sprint("of ", epoch, " at ", at), r, boxFor(t, seed, at, epoch, paddedOf([]byte("note"))), impl.RdOld)
			}
		}
	}
}

// Notes that are alike are read as often as they were written, each under a seal of its own.
func TestNotesAlikeInOtherLettersAreReadEach(t *testing.T) {
	seed := alike(2)
	r := newReader(t, seed)
	for mine := range byte(impl.MaxSeen) {
		r = checkHear(t, "the note again", r, letterFor(t, mine, seed, 0, "note"), impl.RdDone)
	}
	for i, note := range r.Got {
		if string(note) != "note" {
			t.Errorf("at place %d it got %q", i, note)
		}
	}
	checkHear(t, "one more", r, letterFor(t, 100, seed, 0, "note"), impl.RdFull)
}

func TestNotesOfEachSizeAreHeard(t *testing.T) {
	seed := someBytes(32)
	for _, many := range append([]int{29, 61, 62, 63, 96, 127, 199}, noteEdges...) {
		for _, note := range notesOf(many) {
			r := checkHear(t, fmt.Sprint("a note of ", many), newReader(t, seed), letterFor(t, 1, seed, 0, string(note)), impl.RdDone)
			if len(r.Got) != 1 || !bytes.Equal(r.Got[0], note) {
				t.Fatalf("of %x it got %x", note, r.Got)
			}
		}
	}
}

// What is sealed right but is no note, as it is too long or padded in another way, is not read.
func TestWhatIsUnderASealButNoNoteIsNotHeard(t *testing.T) {
	seed := alike(2)
	r := newReader(t, seed)
	for _, plain := range [][]byte{
		nil, {0}, {0, 0}, make([]byte, 31), make([]byte, 33), make([]byte, 64), someBytes(impl.MaxPlain), make([]byte, impl.MaxPlain),
		laid(201, someBytes(201), 288), laid(5, []byte("hello"), 64), laid(5, []byte("hello!"), 32), laid(95, someBytes(95), 128),
	} {
		checkHear(t, "no note", r, boxFor(t, seed, 0, 0, plain), impl.RdSeal)
	}
	checkHear(t, "just a note", r, boxFor(t, seed, 0, 0, laid(200, someBytes(200), 288)), impl.RdDone)
	checkHear(t, "more than a box has", r, boxFor(t, seed, 0, 0, make([]byte, impl.MaxPlain+1)), impl.RdBad)
}

func TestLettersForOthersAreNotHeard(t *testing.T) {
	seed := alike(2)
	r := readerAt(t, seed, 5)
	for _, epoch := range []int{4, 5} {
		letter := letterFor(t, 1, seed, epoch, "note")
		checkHear(t, "its own", r, letter, impl.RdDone)
		checkHear(t, "for another seed", r, letterFor(t, 1, alike(3), epoch, "note"), impl.RdSeal)
		checkHear(t, "for a seed that is a bit away", r, letterFor(t, 1, bent(seed, 31, 128), epoch, "note"), impl.RdSeal)
		// The seal is for the key of one epoch, the letter tells the other one: neither key opens it.
		checkHear(t, "for the key of the other epoch", r, boxFor(t, seed, 9-epoch, epoch, paddedOf([]byte("note"))), impl.RdSeal)
		for _, other := range []int{0, 3, 6, 40} {
			checkHear(t, "for the key of another epoch", r, boxFor(t, seed, other, epoch, paddedOf([]byte("note"))), impl.RdSeal)
		}
		turned := bytes.Clone(letter)
		turned[2] = byte(9 - epoch)
		checkHear(t, "told as the other epoch's", r, turned, impl.RdSeal)
	}
}

func TestLettersWithAnotherByteAreNotHeard(t *testing.T) {
	seed := alike(2)
	letter := letterFor(t, 1, seed, 0, "note")
	r := newReader(t, seed)
	heard := checkHear(t, "as it was", r, letter, impl.RdDone)
	for place := range letter {
		want := impl.RdSeal
		switch place {
		case 0:
			want = impl.RdBad
		case 1, 2:
			want = impl.RdOld
		}
		other := bent(letter, place, 1<<(place%8))
		checkHear(t, fmt.Sprint("the byte ", place), r, other, want)
		// It is not what was heard, so it is not heard twice.
		checkHear(t, fmt.Sprint("the byte ", place), heard, other, want)
		checkAmong(t, "another byte", heard, other, false)
	}
	for cut := range letter {
		want := impl.RdBad
		if cut >= 51 {
			want = impl.RdSeal
		}
		checkHear(t, fmt.Sprint("cut at ", cut), r, letter[:cut], want)
		checkHear(t, fmt.Sprint("cut at ", cut), heard, letter[:cut], want)
		checkAmong(t, "cut", heard, letter[:cut], false)
	}
	for _, more := range []int{1, 16, 32, 1551 - len(letter)} {
		checkHear(t, "more behind it", r, append(bytes.Clone(letter), make([]byte, more)...), impl.RdSeal)
		checkHear(t, "more behind it", heard, append(bytes.Clone(letter), make([]byte, more)...), impl.RdSeal)
	}
	checkHear(t, "as it was", heard, letter, impl.RdTwice)
}

// Where who writes made 0 with every key, who has none could seal as well.
func TestLettersFromNobodyAreNotHeard(t *testing.T) {
	seed := alike(2)
	r := newReader(t, seed)
	to := []byte(libraryKeysAt(t, seed, 0).public)
	for _, n := range noughtPoints(t) {
		for _, from := range bothTops(n) {
			l := boxed(t, make([]byte, 32), from, to, 0, paddedOf([]byte("note")))
			checkHear(t, "from nobody", r, slices.Concat(headOf(0, from), l.Box), impl.RdSeal)
		}
	}
}

func TestWhatIsNoLetterIsNotHeard(t *testing.T) {
	right := slices.Concat(headOf(0, someBytes(32)), someBytes(4000))
	for _, r := range []impl.Reader{newReader(t, alike(2)), soManySeen(impl.MaxSeen), readerAt(t, alike(2), impl.MaxEpoch)} {
		for many := range 51 {
			checkHear(t, "too few, with room behind", r, right[:many], impl.RdBad)
			checkHear(t, "bytes 1", r, bytes.Repeat([]byte{1}, many), impl.RdBad)
			checkHear(t, "bytes 0", r, make([]byte, many), impl.RdBad)
		}
		for _, many := range []int{1552, 1553, 1559, 1560, 1561, 4000} {
			checkHear(t, "too many", r, right[:many], impl.RdBad)
		}
		for first := range 256 {
			if first != 1 {
				checkHear(t, "another first byte", r, slices.Concat([]byte{byte(first)}, right[1:100]), impl.RdBad)
			}
		}
		checkHear(t, "nil", r, nil, impl.RdBad)
		checkHear(t, "far too many", r, make([]byte, 1<<20), impl.RdBad)
	}
	r := newReader(t, alike(2))
	checkHear(t, "the fewest that are one", r, right[:51], impl.RdSeal)
	checkHear(t, "the most that are one", r, right[:1551], impl.RdSeal)
}

// The twentieth letter is read, the one behind it is not, and stays unread at the next epoch too.
func TestAReaderThatIsFull(t *testing.T) {
	seed := alike(2)
	r := newReader(t, seed)
	for i := range impl.MaxSeen {
		r = checkHear(t, fmt.Sprint("letter ", i), r, letterFor(t, byte(i), seed, 0, fmt.Sprint("note ", i)), impl.RdDone)
	}
	if len(r.Seen) != 20 || len(r.Got) != 20 || string(r.Got[19]) != "note 19" {
		t.Fatalf("a full one is %s", shownReader(r))
	}
	one := letterFor(t, 100, seed, 0, "one more")
	checkHear(t, "one more", r, one, impl.RdFull)
	later := checkNext(t, "a full one", r, true)
	checkHear(t, "one more at the next epoch", later, one, impl.RdFull)
	checkHear(t, "of the next epoch", later, letterFor(t, 101, seed, 1, "next"), impl.RdFull)
	checkHear(t, "the first one again", later, r.Seen[0], impl.RdTwice)
	checkHear(t, "the last one again", later, r.Seen[19], impl.RdTwice)
	for _, many := range []int{0, 1, 18, 19} {
		checkHear(t, fmt.Sprint(many, " are seen"), soManySeen(many), one, impl.RdDone)
	}
	checkHear(t, "20 are seen", soManySeen(20), one, impl.RdFull)
}

// Where several reasons apply: RdBad ahead of RdTwice, RdOld, RdFull and RdSeal, in this order.
func TestWhichReasonOfAReaderComesFirst(t *testing.T) {
	seed := alike(2)
	current, old, other := letterFor(t, 1, seed, 1, "note"), letterFor(t, 1, seed, 2, "note"), letterFor(t, 1, alike(3), 1, "note")
	oldOther := letterFor(t, 1, alike(3), 2, "note")
	// r has seen so many beside the letter, if there is one.
	seen := func(many int, letters ...[]byte) impl.Reader {
		r := soManySeen(many)
		for _, letter := range letters {
			r.Seen, r.Got = append(r.Seen, letter), append(r.Got, []byte("note"))
		}
		return r
	}
	few, full := seen(3), seen(20)
	for _, c := range []struct {
		what   string
		r      impl.Reader
		letter []byte
		code   int
	}{
		{"all is right", few, current, impl.RdDone},
		{"the seal alone", few, other, impl.RdSeal},
		{"full alone", full, current, impl.RdFull},
		{"full, and the seal", full, other, impl.RdFull},
		{"old alone", few, old, impl.RdOld},
		{"old, and the seal", few, oldOther, impl.RdOld},
		{"old, and full", full, old, impl.RdOld},
		{"old, full, and the seal", full, oldOther, impl.RdOld},
		{"twice alone", seen(3, current), current, impl.RdTwice},
		{"twice, and the seal", seen(3, other), other, impl.RdTwice},
		{"twice, and full", seen(19, current), current, impl.RdTwice},
		{"twice, full, and the seal", seen(19, other), other, impl.RdTwice},
		{"twice, and old", seen(3, old), old, impl.RdTwice},
		{"twice, old, and full", seen(19, old), old, impl.RdTwice},
		{"twice, old, full, and the seal", seen(19, oldOther), oldOther, impl.RdTwice},
		{"no letter, and twice", few, few.Seen[1], impl.RdBad},
		{"no letter, twice, and full", full, full.Seen[19], impl.RdBad},
		{"no letter, and full", full, []byte("none"), impl.RdBad},
		{"no letter that begins as an old one", few, old[:50], impl.RdBad},
		{"no reader, and all is right", seen(21), current, impl.RdBad},
		{"no reader, and twice", seen(20, current), current, impl.RdBad},
		{"no reader, and old", seen(21), old, impl.RdBad},
		{"no reader, and the seal", seen(21), other, impl.RdBad},
		{"no reader, as two are alike, and twice", seen(3, current, current), current, impl.RdBad},
		{"no reader, and no letter", seen(21), nil, impl.RdBad},
	} {
		checkHear(t, c.what, c.r, c.letter, c.code)
	}
}

func TestReadersWithAnotherSeed(t *testing.T) {
	for _, many := range noSeedSizes {
		for _, seed := range [][]byte{someBytes(many), make([]byte, many, many+32)} {
			for _, r := range []impl.Reader{{}, soManySeen(1), soManySeen(20)} {
				r.Seed = seed
				checkNoReader(t, fmt.Sprint("a seed of ", many), r)
			}
		}
	}
	long := someBytes(64)
	for _, many := range []int{31, 33} {
		r := soManySeen(2)
		r.Seed = long[:many]
		checkNoReader(t, fmt.Sprint("a seed of ", many, " with room behind"), r)
	}
	r := soManySeen(2)
	r.Seed = long[:32]
	checkReaderOk(t, "a seed of 32", r, true)
	checkNoReader(t, "nothing at all", impl.Reader{})
}

func TestReadersWithAnotherEpoch(t *testing.T) {
	for _, many := range []int{0, 1, 20} {
		r := soManySeen(many)
		for epoch := range impl.MaxEpoch + 1 {
			r.Epoch = epoch
			checkReaderOk(t, "an epoch", r, true)
			checkNext(t, "an epoch", r, epoch < 40)
		}
		for _, epoch := range noKeyEpochs {
			r.Epoch = epoch
			// The one behind -1 is right, and it is what Next asks for.
			if epoch != -1 {
				checkNoReader(t, fmt.Sprint("epoch ", epoch), r)
			}
		}
		r.Epoch = -1
		checkReaderOk(t, "ahead of the first epoch", r, false)
		checkHear(t, "ahead of the first epoch", r, letterFor(t, 1, alike(2), 0, "note"), impl.RdBad)
		checkReaderOk(t, "behind that", checkNext(t, "ahead of the first epoch", r, true), true)
	}
}

func TestReadersThatHaveSeenTooMany(t *testing.T) {
	for many := range 30 {
		checkReaderOk(t, fmt.Sprint(many, " are seen"), soManySeen(many), many <= 20)
	}
	checkNext(t, "20 are seen", soManySeen(20), true)
	checkNoReader(t, "21 are seen", soManySeen(21))
	checkNoReader(t, "many are seen", soManySeen(300))
}

func TestReadersWhoseSeenAreTooLong(t *testing.T) {
	for _, place := range []int{0, 1, 9, 19} {
		for _, many := range bytesEdges {
			r := soManySeen(20)
			r.Seen[place] = someBytes(many)
			checkReaderOk(t, fmt.Sprint("one of ", many), r, true)
			checkNext(t, fmt.Sprint("one of ", many), r, true)
			checkAmong(t, fmt.Sprint("one of ", many), r, someBytes(many), true)
		}
		for _, many := range noByteSizes {
			r := soManySeen(20)
			r.Seen[place] = someBytes(many)
			checkNoReader(t, fmt.Sprint("one of ", many), r)
		}
	}
	r := soManySeen(20)
	for i := range r.Seen {
		r.Seen[i] = bytes.Repeat([]byte{byte(i)}, mostBytes)
	}
	checkReaderOk(t, "all of the most", r, true)
}

func TestReadersWhoseNotesAreTooLong(t *testing.T) {
	for _, place := range []int{0, 1, 9, 19} {
		for _, many := range []int{0, 1, 199, 200} {
			r := soManySeen(20)
			r.Got[place] = someBytes(many)
			checkReaderOk(t, fmt.Sprint("a note of ", many), r, true)
			checkNext(t, fmt.Sprint("a note of ", many), r, true)
		}
		for _, many := range []int{201, 202, 255, 256, 288, mostBytes, 65536} {
			r := soManySeen(20)
			r.Got[place] = someBytes(many)
			checkNoReader(t, fmt.Sprint("a note of ", many), r)
		}
	}
}

func TestReadersWithTwoAlike(t *testing.T) {
	for i := range 20 {
		for j := range i {
			r := soManySeen(20)
			r.Seen[i] = bytes.Clone(r.Seen[j])
			checkNoReader(t, fmt.Sprint(j, " and ", i, " are alike"), r)
		}
	}
	for _, many := range bytesEdges {
		b := someBytes(many)
		for _, other := range [][]byte{b, bytes.Clone(b), append(make([]byte, 0, 2000), b...)} {
			checkNoReader(t, fmt.Sprint("two alike of ", many), impl.Reader{Seed: alike(2), Seen: [][]byte{b, other}, Got: make([][]byte, 2)})
		}
		if many == 0 {
			continue
		}
		for _, other := range [][]byte{b[:many-1], b[1:], bent(b, many-1, 1), bent(b, 0, 128)} {
			checkReaderOk(t, fmt.Sprint("two unlike of ", many), impl.Reader{Seed: alike(2), Seen: [][]byte{b, other}, Got: make([][]byte, 2)}, true)
		}
	}
	checkNoReader(t, "nil and empty are alike", impl.Reader{Seed: alike(2), Seen: [][]byte{nil, {}}, Got: make([][]byte, 2)})
	checkReaderOk(t, "bytes 0, of other sizes", impl.Reader{Seed: alike(2), Seen: [][]byte{nil, {0}, {0, 0}}, Got: make([][]byte, 3)}, true)
	r := soManySeen(20)
	for i := range r.Got {
		r.Got[i] = []byte("alike")
	}
	checkReaderOk(t, "notes that are alike", r, true)
}

func TestReadersWithFewerOrMoreNotes(t *testing.T) {
	for seen := range 22 {
		for got := range 23 {
			r := impl.Reader{Seed: alike(2), Epoch: 1, Seen: soManySeen(seen).Seen, Got: soManySeen(got).Got}
			checkReaderOk(t, fmt.Sprint(seen, " are seen, ", got, " are got"), r, seen == got && seen <= 20)
		}
	}
	r := soManySeen(5)
	checkNoReader(t, "a note less", impl.Reader{Seed: r.Seed, Epoch: 1, Seen: r.Seen, Got: r.Got[:4]})
	checkNoReader(t, "a note more", impl.Reader{Seed: r.Seed, Epoch: 1, Seen: r.Seen, Got: append(clonedLists(r.Got), nil)})
	checkNoReader(t, "no notes", impl.Reader{Seed: r.Seed, Epoch: 1, Seen: r.Seen})
	checkNoReader(t, "notes alone", impl.Reader{Seed: r.Seed, Epoch: 1, Got: r.Got})
	checkReaderOk(t, "lists of nothing", impl.Reader{Seed: r.Seed, Seen: [][]byte{}, Got: nil}, true)
}

// Read asks for Seen alone, whatever else the reader is.
func TestWhatIsAmongSeen(t *testing.T) {
	long := someBytes(70000)
	for what, r := range map[string]impl.Reader{
		"a reader":         soManySeen(20),
		"too many":         soManySeen(100),
		"without notes":    {Seen: someSeen(30)},
		"without a seed":   {Seen: someSeen(3), Got: make([][]byte, 3)},
		"of an epoch less": {Seed: alike(2), Epoch: -1, Seen: someSeen(3)},
		"a long one":       {Seed: alike(2), Seen: append(someSeen(2), long)},
		"two alike":        {Seed: alike(2), Seen: append(someSeen(2), someSeen(2)...)},
		"an empty one":     {Seed: alike(2), Seen: append(someSeen(2), nil)},
	} {
		for _, b := range r.Seen {
			checkAmong(t, what, r, b, true)
			checkAmong(t, what, r, bytes.Clone(b), true)
			checkAmong(t, what, r, append(bytes.Clone(b), 0), false)
			if len(b) > 0 {
				checkAmong(t, what, r, bent(b, len(b)-1, 64), false)
				checkAmong(t, what, r, bent(b, 0, 64), false)
				checkAmong(t, what, r, b[1:], false)
			}
		}
		checkAmong(t, what, r, nil, what == "an empty one")
		checkAmong(t, what, r, []byte{}, what == "an empty one")
		for _, note := range r.Got {
			checkAmong(t, what, r, note, len(note) == 0 && what == "an empty one")
		}
		checkAmong(t, what, r, r.Seed, len(r.Seed) == 0 && what == "an empty one")
	}
	checkAmong(t, "nothing", impl.Reader{}, nil, false)
	checkAmong(t, "nothing", impl.Reader{}, long, false)
}

// Next leaves all as it was but for the epoch, from the first one to the last, and there it stays.
func TestNextUpToTheLastEpoch(t *testing.T) {
	r := checkHear(t, "a letter", newReader(t, alike(2)), letterFor(t, 1, alike(2), 0, "note"), impl.RdDone)
	was := clonedReader(r)
	for epoch := range impl.MaxEpoch {
		r = checkNext(t, "on", r, true)
		if was.Epoch = epoch + 1; !sameReader(r, was) {
			t.Fatalf("at %d it is %s, want %s", epoch+1, shownReader(r), shownReader(was))
		}
	}
	for range 3 {
		r = checkNext(t, "at the last epoch", r, false)
	}
	checkReaderOk(t, "at the last epoch", r, true)
	checkHear(t, "at the last epoch", r, letterFor(t, 1, alike(2), 40, "last"), impl.RdDone)
	checkHear(t, "the one ahead of it", r, letterFor(t, 1, alike(2), 39, "last but one"), impl.RdDone)
	checkHear(t, "two ahead of it", r, letterFor(t, 1, alike(2), 38, "no more"), impl.RdOld)
	for _, epoch := range []int{math.MaxInt, math.MinInt, math.MaxInt - 1} {
		r.Epoch = epoch
		checkNext(t, "far away", r, false)
	}
}

// What is refused leaves the reader that was given as it was: it goes on from there.
func TestWhatIsNotHeardTurnsNothing(t *testing.T) {
	seed := alike(2)
	plain, pestered := newReader(t, seed), newReader(t, seed)
	for i := range 6 {
		letter := letterFor(t, byte(i), seed, i/2, fmt.Sprint("note ", i))
		for _, bad := range [][]byte{nil, letter[:60], bent(letter, 40, 1), letterFor(t, 50, seed, i/2+1, "early"), letterFor(t, 51, alike(3), i/2, "another's")} {
			if _, code := impl.Hear(pestered, bad); code == impl.RdDone {
				t.Fatalf("%x is heard", bad)
			}
		}
		plain, pestered = checkHear(t, "alone", plain, letter, impl.RdDone), checkHear(t, "among others", pestered, letter, impl.RdDone)
		if i%2 == 1 {
			plain, pestered = checkNext(t, "alone", plain, true), checkNext(t, "among others", pestered, true)
		}
		if !sameReader(plain, pestered) {
			t.Fatalf("%s, want %s", shownReader(pestered), shownReader(plain))
		}
	}
}

// anyHeard is often a letter that is read at that epoch.
func anyHeard(t *testing.T, from *rand.Rand, r impl.Reader, seen [][]byte) []byte {
	t.Helper()
	seed, epoch := r.Seed, min(max(r.Epoch-from.Intn(2), 0), impl.MaxEpoch)
	switch from.Intn(9) {
	case 0:
		if len(seen) > 0 {
			return seen[from.Intn(len(seen))]
		}
	case 1:
		seed = alike(byte(from.Intn(4)))
	case 2:
		epoch = from.Intn(impl.MaxEpoch + 1)
	case 3:
		letter := letterFor(t, byte(from.Intn(256)), seed, epoch, "bent")
		return bent(letter, from.Intn(len(letter)), 1<<from.Intn(8))
	case 4:
		return someBytes(from.Intn(100))
	}
	return letterFor(t, byte(from.Intn(256)), seed, epoch, fmt.Sprint("note ", from.Intn(1000)))
}

// Promise 16 whatever is done: against lists, and no two of all that was read are alike.
func TestReadersAgainstLists(t *testing.T) {
	from := rand.New(rand.NewSource(16))
	codes := map[int]int{}
	for range 12 {
		r := readerAt(t, oftenEdgy(from), from.Intn(impl.MaxEpoch))
		var tried [][]byte
		for range 60 {
			if from.Intn(15) == 0 {
				r = checkNext(t, "any", r, r.Epoch < 40)
				continue
			}
			b := anyHeard(t, from, r, tried)
			tried = append(tried, b)
			var code int
			r, code = checkHeard(t, "any", r, b)
			codes[code]++
			checkReaderOk(t, "whatever is done", r, true)
			if _, again := impl.Hear(r, b); again == impl.RdDone || code == impl.RdDone && again != impl.RdTwice {
				t.Fatalf("heard again, it is answered by %d behind %d", again, code)
			}
		}
	}
	for code := impl.RdDone; code <= impl.RdSeal; code++ {
		if codes[code] < 20 {
			t.Errorf("code %d came %d times only", code, codes[code])
		}
	}
}

// busyReader has letters of two epochs, another one to hear, and room behind each of its lists.
func busyReader(t *testing.T) (impl.Reader, []byte) {
	t.Helper()
	seed := alike(2)
	r := newReader(t, seed)
	for i := range 4 {
		r = checkHear(t, "busy", r, letterFor(t, byte(i), seed, 0, fmt.Sprint("note ", i)), impl.RdDone)
	}
	r = checkNext(t, "busy", r, true)
	roomy := func(b []byte) []byte { return append(make([]byte, 0, len(b)+30), b...) }
	for i := range r.Seen {
		r.Seen[i], r.Got[i] = roomy(r.Seen[i]), roomy(r.Got[i])
	}
	r.Seed, r.Seen, r.Got = roomy(r.Seed), append(make([][]byte, 0, 30), r.Seen...), append(make([][]byte, 0, 30), r.Got...)
	return r, roomy(letterFor(t, 9, seed, 1, "one more"))
}

// readerAsks are what answers with a reader.
func readerAsks(r impl.Reader, b []byte) map[string]func() impl.Reader {
	hear := func(r impl.Reader, b []byte) func() impl.Reader {
		return func() impl.Reader { after, _ := impl.Hear(r, b); return after }
	}
	next := func(r impl.Reader) func() impl.Reader {
		return func() impl.Reader { after, _ := impl.Next(r); return after }
	}
	wrong, last := r, r
	wrong.Epoch, last.Epoch = -2, impl.MaxEpoch
	asks := map[string]func() impl.Reader{
		"ReaderNew":            func() impl.Reader { after, _ := impl.ReaderNew(r.Seed); return after },
		"ReaderNew of none":    func() impl.Reader { after, _ := impl.ReaderNew(b); return after },
		"Hear":                 hear(r, b),
		"Hear of no letter":    hear(r, nil),
		"Hear by no reader":    hear(wrong, b),
		"Next":                 next(r),
		"Next at the end":      next(last),
		"Next of what is none": next(wrong),
	}
	if len(r.Seen) > 0 {
		asks["Hear of one twice"] = hear(r, r.Seen[0])
	}
	return asks
}

// writeOverLists turns each of the lists, the room behind it, and then which lists there are.
func writeOverLists(list [][]byte) {
	for _, b := range list[:cap(list)] {
		whole := b[:cap(b)]
		for i := range whole {
			whole[i] ^= 255
		}
	}
	for i := range list[:cap(list)] {
		list[:cap(list)][i] = []byte("another")
	}
}

func writeOverReader(r impl.Reader) {
	writeOverLists([][]byte{r.Seed})
	writeOverLists(r.Seen)
	writeOverLists(r.Got)
}

func TestReadersAnswerAnewEachTime(t *testing.T) {
	r, b := busyReader(t)
	was, letter := busyReader(t)
	for name, ask := range readerAsks(r, b) {
		kept := clonedReader(ask())
		writeOverReader(ask())
		if !sameReader(r, was) || !bytes.Equal(b, letter) {
			t.Fatalf("%s shares memory with an argument: %s, %x", name, shownReader(r), b)
		}
		if again := ask(); !sameReader(again, kept) {
			t.Errorf("%s, asked again, = %s, want %s", name, shownReader(again), shownReader(kept))
		}
	}
	checkHear(t, "behind all that", r, b, impl.RdDone)
}

// What is given may be written over behind a call: what was answered stays as it was.
func TestAReaderThatChangesBehindACall(t *testing.T) {
	r, b := busyReader(t)
	for name := range readerAsks(r, b) {
		r, b := busyReader(t)
		got := readerAsks(r, b)[name]()
		kept := clonedReader(got)
		writeOverReader(r)
		writeOverLists([][]byte{b})
		if !sameReader(got, kept) {
			t.Errorf("%s turned into %s, want %s", name, shownReader(got), shownReader(kept))
		}
	}
}

// Also where what was given shares its bytes, what is answered shares none.
func TestTheListsOfAReaderShareNothing(t *testing.T) {
	r, b := busyReader(t)
	for i := range r.Got {
		r.Got[i] = r.Seen[i][:20]
	}
	r.Seen[0], r.Got[0] = r.Seed, r.Seed
	checkReaderOk(t, "lists that share their bytes", r, true)
	for name, ask := range readerAsks(r, b) {
		got := ask()
		lists := slices.Concat([][]byte{got.Seed}, got.Seen, got.Got)
		for i := range lists {
			for j := range lists[:i] {
				checkApart(t, name, lists[i], lists[j])
			}
		}
		got = ask()
		seen := clonedLists(got.Seen)
		writeOverLists(got.Got)
		if !sameLists(got.Seen, seen) {
			t.Errorf("%s: Seen shares memory with Got", name)
		}
	}
	checkReaderOk(t, "behind all that", r, true)
}

// A reader that is heard on from twice goes two ways: neither is to be seen in the other.
func TestTwoWaysFromOneReader(t *testing.T) {
	r, b := busyReader(t)
	other := letterFor(t, 77, r.Seed, 0, "another way")
	one := checkHear(t, "one way", r, b, impl.RdDone)
	two := checkHear(t, "another way", r, other, impl.RdDone)
	if string(one.Got[4]) != "one more" || string(two.Got[4]) != "another way" || !bytes.Equal(one.Seen[4], b) || !bytes.Equal(two.Seen[4], other) {
		t.Errorf("%s and %s", shownReader(one), shownReader(two))
	}
	checkHear(t, "there the other one is new", one, other, impl.RdDone)
	checkHear(t, "there the one is new", two, b, impl.RdDone)
	checkHear(t, "and where they came from", r, b, impl.RdDone)
}

func TestReadersLeaveTheirArgumentsAlone(t *testing.T) {
	r, b := busyReader(t)
	// Behind each list there is room, in which others stand.
	seen, got := append(r.Seen, someSeen(5)...), append(r.Got, someSeen(7)...)
	seed, letter := append(r.Seed, someBytes(30)...), append(b, someBytes(30)...)
	kept := [][][]byte{clonedLists(seen), clonedLists(got), clonedLists([][]byte{seed, letter})}
	for _, ask := range readerAsks(r, b) {
		ask()
	}
	impl.ReaderOk(r)
	impl.Read(r, b)
	impl.Read(r, r.Seen[3])
	if !sameLists(seen, kept[0]) || !sameLists(got, kept[1]) || !sameLists([][]byte{seed, letter}, kept[2]) {
		t.Errorf("what was given turned into %x, %x, %x, %x", seen, got, seed, letter)
	}
}

func TestReadersOfManyAtATime(t *testing.T) {
	r, b := busyReader(t)
	want := map[string]impl.Reader{}
	for name, ask := range readerAsks(r, b) {
		want[name] = ask()
	}
	var all sync.WaitGroup
	for range 16 {
		all.Go(func() {
			for range 5 {
				for name, ask := range readerAsks(r, b) {
					if got := ask(); !sameReader(got, want[name]) {
						t.Errorf("%s = %s, want %s", name, shownReader(got), shownReader(want[name]))
					}
				}
				if !impl.ReaderOk(r) || impl.Read(r, b) || !impl.Read(r, r.Seen[1]) {
					t.Error("what is asked of one reader is answered in another way")
				}
			}
		})
	}
	all.Wait()
}
