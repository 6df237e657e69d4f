package tests

import (
	"bytes"
	"fmt"
	"math"
	"math/big"
	"math/rand"
	"slices"
	"sync"
	"testing"

	"loop.example/g00473/impl"
)

var (
	letterEpochs = []int{0, 1, 255, 256, 65535}
	// noEpochs are beside the limits; what is left of some of them in two bytes would be an epoch.
	noEpochs = []int{-1, -2, -255, -256, -65536, math.MinInt, 65536, 65537, 65543, 65791, 131071, 1 << 24, 1 << 32, math.MaxInt}
	// noteEdges are where a step is just filled, where it turns, and the longest.
	noteEdges = []int{0, 1, 30, 31, 94, 95, 190, 191, 200}
)

// alike are 32 bytes that are one.
func alike(x byte) []byte { return bytes.Repeat([]byte{x}, 32) }

// publicPoint is as the library makes it.
func publicPoint(t *testing.T, key []byte) []byte {
	t.Helper()
	return libraryPoint(t, key, thirtyTwo(big.NewInt(9)))
}

// headOf is what goes with a seal; it knows no limits.
func headOf(epoch int, from []byte) []byte {
	return slices.Concat([]byte{1, byte(epoch >> 8), byte(epoch)}, from)
}

// keysOf wants what is not too long for a code.
func keysOf(t *testing.T, shared, from, to []byte) ([]byte, []byte) {
	t.Helper()
	both := expandOf(t, extractOf(t, slices.Concat(from, to), shared), []byte("plume"), 44)
	return both[:32], both[32:]
}

// boxed is a letter with any text under its seal, whatever was agreed on; it knows no limits.
func boxed(t *testing.T, shared, from, to []byte, epoch int, plain []byte) impl.Letter {
	t.Helper()
	key, nonce := keysOf(t, shared, from, to)
	return impl.Letter{Epoch: epoch, From: from, Box: sealOf(key, nonce, headOf(epoch, from), plain)}
}

// letterOf is Write once more, by the library.
func letterOf(t *testing.T, secret, to []byte, epoch int, note []byte) impl.Letter {
	t.Helper()
	return boxed(t, libraryPoint(t, secret, to), publicPoint(t, secret), to, epoch, paddedOf(note))
}

func sameLetter(a, b impl.Letter) bool {
	return a.Epoch == b.Epoch && bytes.Equal(a.From, b.From) && bytes.Equal(a.Box, b.Box)
}

func noLetter(l impl.Letter) bool { return l.Epoch == 0 && len(l.From) == 0 && len(l.Box) == 0 }

func checkWritten(t *testing.T, secret, to []byte, epoch int, note []byte) impl.Letter {
	t.Helper()
	got, ok := impl.Write(secret, to, epoch, note)
	if want := letterOf(t, secret, to, epoch, note); !ok || !sameLetter(got, want) {
		t.Fatalf("Write(%x, %x, %d, %x) = %x, %t, want %x, true", secret, to, epoch, note, got, ok, want)
	}
	return got
}

func checkNotWritten(t *testing.T, what string, secret, to []byte, epoch int, note []byte) {
	t.Helper()
	if got, ok := impl.Write(secret, to, epoch, note); ok || !noLetter(got) {
		t.Fatalf("%s: Write(%x, %x, %d, %x) = %x, %t, want zero and false", what, secret, to, epoch, note, got, ok)
	}
}

func checkRead(t *testing.T, secret []byte, l impl.Letter, want []byte) {
	t.Helper()
	if got, ok := impl.ReadBy(secret, l); !ok || !bytes.Equal(got, want) {
		t.Fatalf("ReadBy(%x, %x) = %x, %t, want %x, true", secret, l, got, ok, want)
	}
}

func checkNotRead(t *testing.T, what string, secret []byte, l impl.Letter) {
	t.Helper()
	if got, ok := impl.ReadBy(secret, l); ok || len(got) != 0 {
		t.Fatalf("%s: ReadBy(%x, %x) = %x, %t, want nothing and false", what, secret, l, got, ok)
	}
}

// checkCarried holds promise 11: what is written for a point is read by its key, as it was written, also after it was bytes.
func checkCarried(t *testing.T, mine, yours []byte, epoch int, note []byte) {
	t.Helper()
	l := checkWritten(t, mine, publicPoint(t, yours), epoch, note)
	checkRead(t, yours, l, note)
	if !impl.LetterOk(l) {
		t.Fatalf("%x is not LetterOk", l)
	}
	if again, ok := impl.LetterOf(impl.LetterBytes(l)); !ok || !sameLetter(again, l) {
		t.Fatalf("%x is read from its bytes as %x, %t", l, again, ok)
	}
}

// The bytes are those that another program makes of the same keys, epochs and notes.
func TestLetters(t *testing.T) {
	for _, c := range []struct {
		mine, yours []byte
		epoch       int
		note, want  string
	}{
		{alike(1), alike(2), 7, "hello", "010007a4e09292b651c278b9772c569f5fa9bb13d906b46ab68c9df9dc2b4409f8a209b882b5ae82763942cfff1d9f287a6265706a5fec024ed9c60bb77dda79785f0d8ffb08c64e42684e6236af39034aa4f4"},
		{alike(1), alike(2), 0, "", "010000a4e09292b651c278b9772c569f5fa9bb13d906b46ab68c9df9dc2b4409f8a209b887ddcbee1a5642cfff1d9f287a6265706a5fec024ed9c60bb77dda79785f0dffb5103a302c69a0c6477c85ce490258"},
		{allBytes()[:32], alike(255), 65535, "a note of more than thirty bytes", "01ffff8f40c5adb68f25624ae5b214ea767a6ec94d829d3d7b5e1ad1ba6f3e2138285fe555ec482873767c59c72bbf2b98add645fa314b84b7f93cb6ef528d935a89a05871cdfac80a30dec18c827e582d944315287f569749475ea86c61b27b73fa58ee8b78f08a046c26fef5051cc9a69341"},
		{alike(0), allBytes()[:32], 256, string(bytes.Repeat([]byte{255}, 31)), "0101002fe57da347cd62431528daac5fbb290730fff684afc4cfc2ed90995f58cb3b74d1cff820002d845dfd93705b32041a096d7a75adb6fbc3622e6c7e2ed4ec6e8b97c92f8897376be520446486891b137a6785e85e365c62a68464fc9dd164b26bafe78afa665b37d19f600feaea93e85f"},
	} {
		l, ok := impl.Write(c.mine, impl.Public(c.yours), c.epoch, []byte(c.note))
		if got := impl.Hex(impl.LetterBytes(l)); !ok || got != c.want {
			t.Errorf("%q is written as %s, %t, want %s", c.note, got, ok, c.want)
		}
		l, ok = impl.LetterOf(unhexed(t, c.want))
		if !ok || l.Epoch != c.epoch {
			t.Errorf("LetterOf(%s) = %x, %t", c.want, l, ok)
		}
		checkRead(t, c.yours, l, []byte(c.note))
	}
}

// Promise 11 at the edges of epochs and notes, each with each.
func TestWhoHasTheKeyReadsAtTheEdges(t *testing.T) {
	mine, yours := someBytes(32), alike(2)
	for _, epoch := range letterEpochs {
		for _, many := range noteEdges {
			checkCarried(t, mine, yours, epoch, someBytes(many))
			checkCarried(t, mine, yours, epoch, make([]byte, many))
		}
	}
}

// Promise 11 of notes of each length, by other keys and epochs each time.
func TestWhoHasTheKeyReads(t *testing.T) {
	from := rand.New(rand.NewSource(11))
	for many := range impl.MaxNote + 1 {
		mine, yours := oftenEdgy(from), oftenEdgy(from)
		note := make([]byte, many)
		from.Read(note)
		checkCarried(t, mine, yours, from.Intn(65536), note)
	}
}

func TestWhoHasTheKeyReadsByEdgeKeys(t *testing.T) {
	keys := edgeKeys()
	for i, mine := range keys {
		for _, yours := range [][]byte{keys[(i+1)%len(keys)], someBytes(32), mine} {
			checkCarried(t, mine, yours, i, someBytes(i))
			checkCarried(t, yours, mine, 65535-i, someBytes(200-i))
		}
	}
}

// The bits of a key that do not count do not count here either: it is one key.
func TestWhoHasTheKeyButForIdleBitsReads(t *testing.T) {
	mine, yours := someBytes(32), alike(90)
	l := checkWritten(t, mine, publicPoint(t, yours), 3, []byte("a note"))
	for _, other := range withIdleBits(yours) {
		checkRead(t, other, l, []byte("a note"))
	}
	for _, other := range withIdleBits(mine) {
		if got, ok := impl.Write(other, impl.Public(yours), 3, []byte("a note")); !ok || !sameLetter(got, l) {
			t.Errorf("by %x %x is written, %t, want %x", other, got, ok, l)
		}
	}
}

// By no other key: not by one that is a bit away, not by the one that wrote it, not by public points.
func TestWhoHasAnotherKeyReadsNothing(t *testing.T) {
	mine, yours := alike(88), alike(90)
	for _, many := range []int{0, 95} {
		l := checkWritten(t, mine, publicPoint(t, yours), 9, someBytes(many))
		for bit := 3; bit < 254; bit++ {
			checkNotRead(t, "a bit away", bent(yours, bit/8, 1<<(bit%8)), l)
		}
		for _, other := range append(edgeKeys(), mine, publicPoint(t, yours), publicPoint(t, mine), l.Box[:32]) {
			checkNotRead(t, "another key", other, l)
		}
		checkRead(t, yours, l, someBytes(many))
	}
}

// What goes with a seal: the epoch counts, though the key that opens is the same.
func TestWithAnotherEpochItIsNotRead(t *testing.T) {
	mine, yours := alike(1), alike(2)
	for _, epoch := range letterEpochs {
		l := checkWritten(t, mine, publicPoint(t, yours), epoch, someBytes(20))
		others := slices.Concat(letterEpochs, noEpochs, []int{epoch + 1, epoch - 1, epoch + 65536, epoch - 65536, epoch + 1<<32, epoch>>8 | epoch<<8})
		for bit := range 63 {
			others = append(others, epoch^1<<bit)
		}
		for _, other := range others {
			if other != epoch {
				checkNotRead(t, fmt.Sprint("epoch ", epoch), yours, impl.Letter{Epoch: other, From: l.From, Box: l.Box})
			}
		}
		checkRead(t, yours, l, someBytes(20))
	}
}

// What goes with a seal: each bit of From counts, the highest too, which counts for no point.
func TestWithAnotherFromItIsNotRead(t *testing.T) {
	mine, yours := alike(1), alike(2)
	l := checkWritten(t, mine, publicPoint(t, yours), 7, someBytes(40))
	for bit := range 256 {
		checkNotRead(t, "a changed bit of From", yours, impl.Letter{Epoch: 7, From: bent(l.From, bit/8, 1<<(bit%8)), Box: l.Box})
	}
	for _, from := range [][]byte{publicPoint(t, yours), publicPoint(t, alike(3)), mine, yours, alike(0)} {
		checkNotRead(t, "another From", yours, impl.Letter{Epoch: 7, From: from, Box: l.Box})
	}
	checkRead(t, yours, l, someBytes(40))
}

// From counts where what is agreed on is the same too: less P or more by it is the same point, yet other bytes.
func TestWithTheSamePointInOtherBytesItIsNotRead(t *testing.T) {
	mine, yours := alike(1), alike(2)
	from, to := publicPoint(t, mine), publicPoint(t, yours)
	shared := libraryPoint(t, mine, to)
	if !bytes.Equal(libraryPoint(t, yours, withTop(from)), shared) {
		t.Fatal("it is another point")
	}
	key, nonce := keysOf(t, shared, from, to)
	plain := paddedOf(someBytes(10))
	checkRead(t, yours, impl.Letter{Epoch: 4, From: from, Box: sealOf(key, nonce, headOf(4, from), plain)}, someBytes(10))
	for _, head := range [][]byte{
		nil, {1}, headOf(4, from)[:34], headOf(4, from)[1:], append(headOf(4, from), 0), headOf(5, from), headOf(4<<8, from), headOf(4, to),
		headOf(4, withTop(from)), from, slices.Concat([]byte{0}, headOf(4, from)[1:]), slices.Concat([]byte{2}, headOf(4, from)[1:]),
		slices.Concat([]byte{1, 4, 0}, from), slices.Concat([]byte{1, 0, 0, 0, 4}, from), impl.LetterBytes(letterOf(t, mine, to, 4, someBytes(10))),
	} {
		checkNotRead(t, fmt.Sprintf("sealed with %x", head), yours, impl.Letter{Epoch: 4, From: from, Box: sealOf(key, nonce, head, plain)})
	}
	for _, c := range [][2][]byte{{withTop(from), to}, {to, from}, {from, from}, {from, nil}, {nil, to}, {from, withTop(to)}} {
		otherKey, otherNonce := keysOf(t, shared, c[0], c[1])
		checkNotRead(t, "sealed by keys of other points", yours, impl.Letter{Epoch: 4, From: from, Box: sealOf(otherKey, otherNonce, headOf(4, from), plain)})
	}
}

func TestWithAnotherBoxItIsNotRead(t *testing.T) {
	mine, yours := alike(1), alike(2)
	for _, many := range []int{0, 95} {
		l := checkWritten(t, mine, publicPoint(t, yours), 256, someBytes(many))
		for place := range l.Box {
			checkNotRead(t, "a changed byte of Box", yours, impl.Letter{Epoch: 256, From: l.From, Box: bent(l.Box, place, 1<<(place%8))})
		}
		for cut := range l.Box {
			checkNotRead(t, "a cut Box", yours, impl.Letter{Epoch: 256, From: l.From, Box: l.Box[:cut]})
		}
		for _, more := range []int{1, 16, 32, 96, impl.MaxPlain} {
			checkNotRead(t, "more of a Box", yours, impl.Letter{Epoch: 256, From: l.From, Box: slices.Concat(l.Box, make([]byte, more))})
		}
		other := checkWritten(t, alike(3), publicPoint(t, yours), 256, someBytes(many))
		checkNotRead(t, "the Box of another letter", yours, impl.Letter{Epoch: 256, From: l.From, Box: other.Box})
		checkRead(t, yours, l, someBytes(many))
	}
}

// What is under a right seal is no note where it is not padded as one.
func TestWhatIsNotPaddedIsNotRead(t *testing.T) {
	mine, yours := alike(1), alike(2)
	from, to := publicPoint(t, mine), publicPoint(t, yours)
	shared := libraryPoint(t, mine, to)
	for _, plain := range [][]byte{
		nil, {0}, {0, 0}, make([]byte, 31), make([]byte, 33), make([]byte, 64), make([]byte, impl.MaxPlain), []byte("hello"), someBytes(impl.MaxPlain),
		laid(5, []byte("hello"), 64), laid(5, []byte("hello!"), 32), laid(95, someBytes(95), 128), laid(94, someBytes(94), 192), laid(201, someBytes(201), 288), laid(31, someBytes(30), 32),
	} {
		checkNotRead(t, "not padded", yours, boxed(t, shared, from, to, 6, plain))
	}
	for _, many := range noteEdges {
		checkRead(t, yours, boxed(t, shared, from, to, 6, paddedOf(someBytes(many))), someBytes(many))
	}
}

// The seal of an epoch that is none is not read, though two of its bytes, and all else, are right.
func TestWhatIsNoLetterIsNotRead(t *testing.T) {
	mine, yours := alike(1), alike(2)
	from, to := publicPoint(t, mine), publicPoint(t, yours)
	shared := libraryPoint(t, mine, to)
	for _, epoch := range noEpochs {
		checkNotRead(t, "an epoch that is none", yours, boxed(t, shared, from, to, epoch, paddedOf([]byte("note"))))
	}
	for _, many := range []int{0, 1, 31, 33, 64} {
		for _, other := range soManyBytes(many) {
			copy(other, from)
			checkNotRead(t, "From of another size", yours, boxed(t, shared, other, to, 2, paddedOf([]byte("note"))))
		}
	}
	checkNotRead(t, "From with room behind", yours, impl.Letter{From: from[:31], Box: letterOf(t, mine, to, 0, nil).Box})
	for _, box := range [][]byte{nil, {}, make([]byte, 15), make([]byte, 16), make([]byte, impl.MaxPlain+16), make([]byte, impl.MaxPlain+17)} {
		checkNotRead(t, "a Box of bytes 0", yours, impl.Letter{Epoch: 2, From: from, Box: box})
	}
	checkNotRead(t, "too much in a Box", yours, boxed(t, shared, from, to, 2, laid(4, []byte("note"), impl.MaxPlain+1)))
	checkNotRead(t, "nothing at all", yours, impl.Letter{})
	checkNotRead(t, "nothing at all, by nothing", nil, impl.Letter{})
}

// Where two make 0 of each other, who has no key could seal as well: that is not read.
func TestOfPointsThatMakeNought(t *testing.T) {
	mine := alike(2)
	to := publicPoint(t, mine)
	for _, n := range noughtPoints(t) {
		for _, u := range bothTops(n) {
			for _, key := range [][]byte{mine, alike(0), alike(255), someBytes(32)} {
				checkNotWritten(t, "for nobody", key, u, 1, []byte("note"))
			}
			checkNotRead(t, "from nobody", mine, boxed(t, make([]byte, 32), u, to, 1, paddedOf([]byte("note"))))
			checkNotRead(t, "from nobody", mine, boxed(t, nil, u, to, 1, paddedOf([]byte("note"))))
		}
	}
}

// For a point that is not told as Public tells it a letter is written too, of its bytes as they are; Public of the key is other bytes, so it is not read.
func TestLettersForPointsInOtherBytes(t *testing.T) {
	mine, yours := alike(1), alike(2)
	to := publicPoint(t, yours)
	checkNotRead(t, "for the same point", yours, checkWritten(t, mine, withTop(to), 8, []byte("note")))
	for _, n := range edgePoints() {
		for _, u := range bothTops(n) {
			checkWritten(t, mine, u, 8, []byte("note"))
		}
	}
	// Likewise one that comes from such a point, and is sealed by its bytes as they are, is read.
	from := withTop(publicPoint(t, mine))
	checkRead(t, yours, boxed(t, libraryPoint(t, yours, from), from, to, 8, paddedOf([]byte("note"))), []byte("note"))
}

func TestKeysAndPointsOfOtherSizesWriteAndReadNothing(t *testing.T) {
	mine, yours := alike(1), alike(2)
	to := publicPoint(t, yours)
	l := letterOf(t, mine, to, 1, []byte("note"))
	for many := range 70 {
		if many == 32 {
			continue
		}
		for _, other := range soManyBytes(many) {
			copy(other, yours)
			checkNotWritten(t, "by a key of another size", other, to, 1, []byte("note"))
			checkNotWritten(t, "for a point of another size", mine, other, 1, []byte("note"))
			checkNotWritten(t, "both of another size", other, other, 1, []byte("note"))
			checkNotRead(t, "by a key of another size", other, l)
		}
	}
	checkNotWritten(t, "by a key with room behind", mine[:31], to, 1, nil)
	checkNotWritten(t, "for a point with room behind", mine, to[:31], 1, nil)
	checkNotRead(t, "by a key with room behind", yours[:31], l)
	checkNotWritten(t, "by nothing for nothing", nil, nil, 0, nil)
	checkNotRead(t, "by nothing", nil, l)
	checkRead(t, yours, l, []byte("note"))
}

func TestWriteOfEpochsThatAreNone(t *testing.T) {
	mine, to := alike(1), publicPoint(t, alike(2))
	for _, epoch := range noEpochs {
		for _, many := range []int{0, 94, 95, 200, 201} {
			checkNotWritten(t, "an epoch that is none", mine, to, epoch, someBytes(many))
		}
	}
}

func TestWriteOfTooLongNotes(t *testing.T) {
	mine, to := alike(1), publicPoint(t, alike(2))
	for _, many := range []int{201, 202, 254, 286, 287, 1498, impl.MaxPlain, impl.MaxPlain + 1, impl.MaxHash + 1, 65536, 65636} {
		checkNotWritten(t, "too long a note", mine, to, 1, someBytes(many))
		checkNotWritten(t, "too long a note", mine, to, 1, make([]byte, many))
	}
	checkWritten(t, mine, to, 1, someBytes(300)[:impl.MaxNote])
}

// How long a letter is tells the step of its note alone.
func TestLettersTellTheStepAlone(t *testing.T) {
	mine, to := alike(1), impl.Public(alike(2))
	for many := range impl.MaxNote + 1 {
		l, ok := impl.Write(mine, to, 1, someBytes(many))
		if want := 35 + paddedSize(many) + 16; !ok || len(impl.LetterBytes(l)) != want {
			t.Errorf("a letter of %d bytes has %d, want %d", many, len(impl.LetterBytes(l)), want)
		}
	}
}

// checkLetterOk holds LetterOk, LetterBytes and LetterOf of a letter that is one, or is none.
func checkLetterOk(t *testing.T, epoch int, from, box []byte, want bool) {
	t.Helper()
	l := impl.Letter{Epoch: epoch, From: from, Box: box}
	if got := impl.LetterOk(l); got != want {
		t.Fatalf("LetterOk of epoch %d, %d and %d bytes is %t", epoch, len(from), len(box), got)
	}
	b := impl.LetterBytes(l)
	if !want {
		if len(b) != 0 {
			t.Fatalf("LetterBytes of epoch %d, %d and %d bytes = %x, want nothing", epoch, len(from), len(box), b)
		}
		return
	}
	if !bytes.Equal(b, slices.Concat(headOf(epoch, from), box)) {
		t.Fatalf("LetterBytes of epoch %d, %x, %x = %x", epoch, from, box, b)
	}
	if again, ok := impl.LetterOf(b); !ok || !sameLetter(again, l) {
		t.Fatalf("LetterOf(%x) = %x, %t, want %x, true", b, again, ok, l)
	}
}

func TestLetterOkAtTheEdges(t *testing.T) {
	for _, epoch := range slices.Concat(letterEpochs, noEpochs) {
		right := slices.Contains(letterEpochs, epoch)
		for _, many := range []int{0, 1, 31, 32, 33, 64} {
			for _, size := range []int{0, 1, 15, 16, 17, 48, impl.MaxPlain, impl.MaxPlain + 15, impl.MaxPlain + 16, impl.MaxPlain + 17, 2 * impl.MaxPlain} {
				box := 16 <= size && size <= impl.MaxPlain+16
				checkLetterOk(t, epoch, someBytes(many), someBytes(size), right && many == 32 && box)
				checkLetterOk(t, epoch, make([]byte, many, 99), make([]byte, size, 4000), right && many == 32 && box)
			}
		}
	}
	if impl.LetterOk(impl.Letter{}) {
		t.Error("nothing is LetterOk")
	}
}

func TestLetterBytesOfEachEpoch(t *testing.T) {
	from, box := someBytes(32), someBytes(16)
	for epoch := -300; epoch < 66000; epoch++ {
		checkLetterOk(t, epoch, from, box, 0 <= epoch && epoch <= 65535)
	}
}

func TestLetterBytesOfEachSize(t *testing.T) {
	for many := range impl.MaxPlain + 100 {
		checkLetterOk(t, 258, someBytes(32), someBytes(many), 16 <= many && many <= impl.MaxPlain+16)
	}
	for many := range 100 {
		checkLetterOk(t, 258, someBytes(many), someBytes(48), many == 32)
	}
}

// checkLetterOf holds LetterOf at bytes that are no letter's.
func checkLetterOf(t *testing.T, what string, b []byte) {
	t.Helper()
	if got, ok := impl.LetterOf(b); ok || !noLetter(got) {
		t.Fatalf("%s: LetterOf(%x) = %x, %t, want zero and false", what, b, got, ok)
	}
}

func TestLetterOfWhatIsNone(t *testing.T) {
	b := slices.Concat(headOf(65535, someBytes(32)), someBytes(4000))
	checkLetterOf(t, "nil", nil)
	for many := range 35 + 16 {
		checkLetterOf(t, "too few, with room behind", b[:many])
		checkLetterOf(t, "too few", bytes.Clone(b[:many]))
		checkLetterOf(t, "bytes 1", bytes.Repeat([]byte{1}, many))
	}
	for _, many := range []int{51, 52, 83, 35 + impl.MaxPlain + 15, 35 + impl.MaxPlain + 16} {
		if got, ok := impl.LetterOf(b[:many]); !ok || !bytes.Equal(impl.LetterBytes(got), b[:many]) {
			t.Errorf("LetterOf of %d bytes = %x, %t", many, got, ok)
		}
		for first := range 256 {
			if first != 1 {
				checkLetterOf(t, "another first byte", slices.Concat([]byte{byte(first)}, b[1:many]))
			}
		}
		checkLetterOf(t, "bytes 0", make([]byte, many))
	}
	for many := 35 + impl.MaxPlain + 17; many <= len(b); many++ {
		checkLetterOf(t, "too many", b[:many])
	}
	checkLetterOf(t, "far too many", slices.Concat([]byte{1}, make([]byte, 1<<20)))
}

// Other bytes are another letter: no two are told alike.
func TestNoTwoLettersAreToldAlike(t *testing.T) {
	b := slices.Concat(headOf(0x1234, someBytes(32)), someBytes(20))
	l, _ := impl.LetterOf(b)
	if l.Epoch != 0x1234 {
		t.Errorf("Epoch is %x, want 1234", l.Epoch)
	}
	for bit := 8; bit < 8*len(b); bit++ {
		other, ok := impl.LetterOf(bent(b, bit/8, 1<<(bit%8)))
		if !ok || sameLetter(other, l) || !bytes.Equal(impl.LetterBytes(other), bent(b, bit/8, 1<<(bit%8))) {
			t.Errorf("with the bit %d changed it is %x, %t", bit, other, ok)
		}
	}
}

func checkKeys(t *testing.T, shared, from, to, wantKey, wantNonce []byte) {
	t.Helper()
	key, nonce := impl.KeysOf(shared, from, to)
	if !bytes.Equal(key, wantKey) || !bytes.Equal(nonce, wantNonce) {
		t.Fatalf("KeysOf(%x, %x, %x) = %x, %x, want %x, %x", shared, from, to, key, nonce, wantKey, wantNonce)
	}
}

func TestKeysOf(t *testing.T) {
	checkKeys(t, alike(1), alike(2), alike(3), unhexed(t, "f0bf460dbb389a6c6d0eddef10646a07c8faa3cd7e4dec318babc6e03e01845d"), unhexed(t, "44aa845a0bb56f6ad1ae18f3"))
	checkKeys(t, nil, nil, nil, unhexed(t, "f142b9b4a9609287b79456054d5119c97715fb7188ecc449f97dc5ecf0601c46"), unhexed(t, "d0f339547a74c1f828b5c80c"))
	for _, shared := range []int{0, 1, 31, 32, 33, 64, 500, maxMac} {
		for _, from := range []int{0, 1, 31, 32, 33, 64, 500} {
			for _, to := range []int{0, 1, 31, 32, 33, 64, maxMac - from} {
				key, nonce := keysOf(t, someBytes(shared), someBytes(from), make([]byte, to))
				checkKeys(t, someBytes(shared), someBytes(from), make([]byte, to), key, nonce)
			}
		}
	}
}

// Each of the three counts, and which is which.
func TestKeysOfOthersAreOthers(t *testing.T) {
	seen := map[string]bool{}
	for _, shared := range [][]byte{alike(1), alike(2), alike(3)} {
		for _, from := range [][]byte{alike(1), alike(2), alike(3)} {
			for _, to := range [][]byte{alike(1), alike(2), alike(3)} {
				key, nonce := impl.KeysOf(shared, from, to)
				seen[string(key)], seen[string(nonce)] = true, true
			}
		}
	}
	if len(seen) != 2*27 {
		t.Errorf("there are %d keys and nonces, want 54", len(seen))
	}
}

// What is too long for a code makes nothing of it, and keys are made of that, as Derive has it.
func TestKeysOfTooMuch(t *testing.T) {
	both := expandOf(t, nil, []byte("plume"), 44)
	for _, many := range []int{maxMac + 1, impl.MaxHash, impl.MaxHash + 1, 70000} {
		long := someBytes(many)
		checkKeys(t, long, alike(1), alike(2), both[:32], both[32:])
		checkKeys(t, alike(1), long, alike(2), both[:32], both[32:])
		checkKeys(t, alike(1), alike(2), long, both[:32], both[32:])
		checkKeys(t, long, long, long, both[:32], both[32:])
	}
	checkKeys(t, alike(1), someBytes(maxMac/2), someBytes(maxMac/2+1), both[:32], both[32:])
}

func TestLettersOfManyAtATime(t *testing.T) {
	mine, yours := alike(1), alike(2)
	to := publicPoint(t, yours)
	l := letterOf(t, mine, to, 7, []byte("a note"))
	var all sync.WaitGroup
	for range 16 {
		all.Go(func() {
			for i := range 10 {
				if got, ok := impl.Write(mine, to, 7, []byte("a note")); !ok || !sameLetter(got, l) {
					t.Errorf("Write = %x, %t, want %x", got, ok, l)
				}
				if got, ok := impl.ReadBy(yours, l); !ok || string(got) != "a note" {
					t.Errorf("ReadBy = %x, %t", got, ok)
				}
				if got, ok := impl.ReadBy(yours, impl.Letter{Epoch: 8 + i, From: l.From, Box: l.Box}); ok || len(got) != 0 {
					t.Errorf("ReadBy of another epoch = %x, %t", got, ok)
				}
			}
		})
	}
	all.Wait()
}

func TestLettersLeaveTheirArgumentsAlone(t *testing.T) {
	l := letterOf(t, alike(1), publicPoint(t, alike(2)), 7, someBytes(50))
	b := slices.Concat(headOf(7, l.From), l.Box)
	// Each has room behind it, in which the next one stands.
	backing := slices.Concat(alike(1), alike(2), publicPoint(t, alike(2)), someBytes(50), b, someBytes(100))
	kept := bytes.Clone(backing)
	mine, yours, to, note, all := backing[:32], backing[32:64], backing[64:96], backing[96:146], backing[146:146+len(b)]
	inside := impl.Letter{Epoch: 7, From: all[3:35], Box: all[35:]}
	impl.LetterOk(inside)
	impl.LetterBytes(inside)
	impl.LetterOf(all)
	impl.LetterOf(all[:40])
	impl.KeysOf(mine, to, yours)
	impl.KeysOf(mine[:0], to[:0], yours[:0])
	for _, epoch := range []int{-1, 0, 7, 65536} {
		impl.Write(mine, to, epoch, note)
		impl.Write(mine, to, epoch, note[:0])
		impl.Write(mine[:31], to, epoch, note)
		impl.Write(mine, to[:31], epoch, note)
		impl.ReadBy(yours, impl.Letter{Epoch: epoch, From: inside.From, Box: inside.Box})
		impl.ReadBy(yours[:31], impl.Letter{Epoch: epoch, From: inside.From, Box: inside.Box})
		impl.ReadBy(yours, impl.Letter{Epoch: epoch, From: inside.From[:31], Box: inside.Box[:20]})
	}
	if !bytes.Equal(backing, kept) {
		t.Errorf("bytes turned into %x, want %x", backing, kept)
	}
	checkRead(t, yours, inside, someBytes(50))
}

func TestLettersAnswerAnewEachTime(t *testing.T) {
	mine, yours, note := alike(1), alike(2), someBytes(60)
	to := publicPoint(t, yours)
	l := letterOf(t, mine, to, 7, note)
	b := slices.Concat(headOf(7, l.From), l.Box)
	for name, ask := range map[string]func() []byte{
		"LetterBytes":       func() []byte { return impl.LetterBytes(l) },
		"LetterOf, From":    func() []byte { answer, _ := impl.LetterOf(b); return answer.From },
		"LetterOf, Box":     func() []byte { answer, _ := impl.LetterOf(b); return answer.Box },
		"KeysOf, the key":   func() []byte { answer, _ := impl.KeysOf(mine, to, yours); return answer },
		"KeysOf, the nonce": func() []byte { _, answer := impl.KeysOf(mine, to, yours); return answer },
		"Write, From":       func() []byte { answer, _ := impl.Write(mine, to, 7, note); return answer.From },
		"Write, Box":        func() []byte { answer, _ := impl.Write(mine, to, 7, note); return answer.Box },
		"ReadBy":            func() []byte { answer, _ := impl.ReadBy(yours, l); return answer },
	} {
		checkAnew(t, name, ask)
	}
	if !bytes.Equal(mine, alike(1)) || !bytes.Equal(yours, alike(2)) || !bytes.Equal(note, someBytes(60)) || !bytes.Equal(to, publicPoint(t, yours)) {
		t.Error("an answer shares memory with a key or a note")
	}
	if want := letterOf(t, mine, to, 7, note); !sameLetter(l, want) || !bytes.Equal(b, slices.Concat(headOf(7, want.From), want.Box)) {
		t.Error("an answer shares memory with a letter")
	}
}

// checkApart writes over one answer, and over the room behind it, which is not to be seen in the one beside it.
func checkApart(t *testing.T, name string, one, other []byte) {
	t.Helper()
	for _, c := range [][2][]byte{{one, other}, {other, one}} {
		kept := bytes.Clone(c[1])
		whole := c[0][:cap(c[0])]
		for i := range whole {
			whole[i] ^= 255
		}
		if !bytes.Equal(c[1], kept) {
			t.Errorf("the two of %s share memory", name)
		}
	}
}

func TestTheTwoOfAnAnswerShareNothing(t *testing.T) {
	key, nonce := impl.KeysOf(alike(1), alike(2), alike(3))
	checkApart(t, "KeysOf", key, nonce)
	l, _ := impl.Write(alike(1), impl.Public(alike(2)), 1, []byte("note"))
	b := impl.LetterBytes(l)
	checkApart(t, "Write", l.From, l.Box)
	l, _ = impl.LetterOf(b)
	checkApart(t, "LetterOf", l.From, l.Box)
}
