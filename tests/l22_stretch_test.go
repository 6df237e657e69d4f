package tests

import (
	"bytes"
	"crypto/pbkdf2"
	"crypto/sha256"
	"encoding/binary"
	"math"
	"math/rand"
	"slices"
	"sync"
	"testing"

	"loop.example/g00473/impl"
)

const (
	mostStretched  = 96
	mostRemembered = 400
)

// stretchOf tells each F(i) by itself, round by round; it knows no limits.
func stretchOf(words, salt []byte, rounds, many int) []byte {
	var all []byte
	for i := uint32(1); len(all) < many; i++ {
		u := macOf(words, binary.BigEndian.AppendUint32(bytes.Clone(salt), i))
		f := bytes.Clone(u)
		for round := 2; round <= rounds; round++ {
			u = macOf(words, u)
			for place, x := range u {
				f[place] ^= x
			}
		}
		all = append(all, f...)
	}
	return all[:many]
}

// libraryStretch is as the library makes it, which takes no limits either.
func libraryStretch(t *testing.T, words, salt []byte, rounds, many int) []byte {
	t.Helper()
	b, err := pbkdf2.Key(sha256.New, string(words), salt, rounds, many)
	if err != nil {
		t.Fatal(err)
	}
	return b
}

func wrapOf(words, salt, b []byte) []byte {
	both := stretchOf(words, salt, 3, 44)
	return sealOf(both[:32], both[32:], salt, b)
}

func checkStretch(t *testing.T, words, salt []byte, rounds, many int) {
	t.Helper()
	got, want := impl.Stretch(words, salt, rounds, many), stretchOf(words, salt, rounds, many)
	if !bytes.Equal(got, want) || !bytes.Equal(got, libraryStretch(t, words, salt, rounds, many)) {
		t.Fatalf("Stretch(%x, %x, %d, %d) = %x, want %x", words, salt, rounds, many, got, want)
	}
}

func checkNoStretch(t *testing.T, words, salt []byte, rounds, many int) {
	t.Helper()
	if got := impl.Stretch(words, salt, rounds, many); len(got) != 0 {
		t.Fatalf("Stretch of %d and %d bytes, %d, %d = %x, want nothing", len(words), len(salt), rounds, many, got)
	}
}

// checkWrapped holds what is wrapped, and what is unwrapped of it, against b.
func checkWrapped(t *testing.T, words, salt, b []byte) []byte {
	t.Helper()
	want := wrapOf(words, salt, b)
	box, ok := impl.Wrap(words, salt, b)
	if !ok || !bytes.Equal(box, want) {
		t.Fatalf("Wrap(%x, %x, %x) = %x, %t, want %x", words, salt, b, box, ok, want)
	}
	checkUnwraps(t, words, salt, want, b)
	return box
}

func checkUnwraps(t *testing.T, words, salt, box, want []byte) {
	t.Helper()
	if got, ok := impl.Unwrap(words, salt, box); !ok || !bytes.Equal(got, want) {
		t.Fatalf("Unwrap(%x, %x, %x) = %x, %t, want %x", words, salt, box, got, ok, want)
	}
}

func checkNotWrapped(t *testing.T, what string, words, salt, b []byte) {
	t.Helper()
	if box, ok := impl.Wrap(words, salt, b); ok || len(box) != 0 {
		t.Fatalf("%s: Wrap of %d bytes by %d and %d = %x, %t, want nothing and false", what, len(b), len(words), len(salt), box, ok)
	}
}

func checkNotUnwrapped(t *testing.T, what string, words, salt, box []byte) {
	t.Helper()
	if b, ok := impl.Unwrap(words, salt, box); ok || len(b) != 0 {
		t.Fatalf("%s: Unwrap of %d bytes by %x and %x = %x, %t, want nothing and false", what, len(box), words, salt, b, ok)
	}
}

var (
	// rememberedSizes stand around a block of the hash, and at the limit; those of noRememberedSizes are passed it.
	rememberedSizes   = []int{0, 1, 63, 64, 65, 399, mostRemembered}
	noRememberedSizes = []int{mostRemembered + 1, mostRemembered + 2, 464, 800, maxMac - 4, maxMac, maxMac + 1, impl.MaxHash + 1, 1 << 17}

	stretchRounds   = []int{1, 2, 3, impl.MaxRounds - 1, impl.MaxRounds}
	noStretchRounds = []int{math.MinInt, math.MinInt + 1, -impl.MaxRounds, -3, -1, 0, impl.MaxRounds + 1, impl.MaxRounds + 2, 256, 1 << 32, 1<<32 + 1, math.MaxInt - 1, math.MaxInt}

	stretchSizes   = []int{1, 31, 32, 33, 63, 64, 65, 95, mostStretched}
	noStretchSizes = []int{math.MinInt, math.MinInt + 1, -mostStretched, -32, -1, 0, mostStretched + 1, 98, 127, 128, 256, 1 << 32, 1<<32 + 1, math.MaxInt - 1, math.MaxInt}
)

// drawnBytes have a byte other than 0 at their end: bytes 0 behind words are none to a code by a key.
func drawnBytes(from *rand.Rand, most int) []byte {
	b := make([]byte, from.Intn(most+1))
	from.Read(b)
	if len(b) > 0 && b[len(b)-1] == 0 {
		b[len(b)-1] = 1
	}
	return b
}

// The first one was published with 64 bytes (RFC 7914, 11); so were the others, in the form of RFC 6070.
func TestStretchOfKnownWords(t *testing.T) {
	for _, c := range []struct {
		words, salt string
		rounds      int
		want        string
	}{
		{"passwd", "salt", 1, `
			55ac046e56e3089fec1691c22544b605 f94185216dde0465e68b9d57c20dacbc
			49ca9cccf179b645991664b39d77ef31 7c71b845b1e30bd509112041d3a19783`},
		{"password", "salt", 1, "120fb6cffcf8b32c43e7225256c4f837a86548c92ccc35480805987cb70be17b"},
		{"password", "salt", 2, "ae4d0c95af6b46d32d0adff928f06dd02a303f8ef3c251dfd6e2d85a95474c43"},
	} {
		want := unhexed(t, c.want)
		if got := impl.Stretch([]byte(c.words), []byte(c.salt), c.rounds, len(want)); !bytes.Equal(got, want) {
			t.Errorf("Stretch of %q and %q = %x, want %x", c.words, c.salt, got, want)
		}
		// What the other tests hold against is held here itself.
		if got := stretchOf([]byte(c.words), []byte(c.salt), c.rounds, len(want)); !bytes.Equal(got, want) {
			t.Errorf("the tests' own telling = %x, want %x", got, want)
		}
	}
}

func TestMaxRounds(t *testing.T) {
	if impl.MaxRounds != 50 {
		t.Errorf("MaxRounds is %d, want 50", impl.MaxRounds)
	}
}

func TestStretchOfDrawnWords(t *testing.T) {
	from := rand.New(rand.NewSource(22))
	for range 500 {
		words, salt := drawnBytes(from, 90), drawnBytes(from, 90)
		if from.Intn(4) == 0 {
			words, salt = drawnBytes(from, mostRemembered), drawnBytes(from, mostRemembered)
		}
		checkStretch(t, words, salt, 1+from.Intn(impl.MaxRounds), 1+from.Intn(mostStretched))
	}
}

func TestStretchOfEachSize(t *testing.T) {
	all := someBytes(mostRemembered)
	for many := range mostRemembered + 1 {
		checkStretch(t, all[:many], []byte("salt"), 2, 33)
		checkStretch(t, []byte("words"), all[:many], 2, 33)
		checkStretch(t, all[:many], all[:many], 1, 32)
	}
}

// Each size of words with each of salt, with the first of those that are too long; each of both by itself, too.
func TestStretchAtTheEdges(t *testing.T) {
	sizes := slices.Concat(rememberedSizes, []int{mostRemembered + 1})
	for _, wordsMany := range sizes {
		for _, saltMany := range sizes {
			words, salt := someBytes(wordsMany), someBytes(saltMany)
			for _, rounds := range stretchRounds[:3] {
				for _, many := range []int{1, 32, 33, mostStretched} {
					if max(wordsMany, saltMany) <= mostRemembered {
						checkStretch(t, words, salt, rounds, many)
					} else {
						checkNoStretch(t, words, salt, rounds, many)
					}
				}
			}
		}
	}
}

func TestStretchOfTooLongWords(t *testing.T) {
	for _, many := range noRememberedSizes {
		long := someBytes(many)
		for _, rounds := range stretchRounds {
			checkNoStretch(t, long, nil, rounds, 32)
			checkNoStretch(t, nil, long, rounds, 32)
			checkNoStretch(t, long, []byte("salt"), rounds, mostStretched)
			checkNoStretch(t, []byte("words"), long, rounds, mostStretched)
			checkNoStretch(t, long, long, rounds, 1)
		}
		// Spare room behind them is no part of them.
		checkStretch(t, long[:mostRemembered], long[:3], 2, 32)
		checkStretch(t, long[:3], long[:mostRemembered], 2, 32)
	}
}

func TestStretchOfNothing(t *testing.T) {
	room := someBytes(40)
	for _, none := range [][]byte{nil, {}, room[:0]} {
		for _, other := range [][]byte{nil, {}, room[:0], []byte("other")} {
			for _, many := range stretchSizes {
				checkStretch(t, none, other, 3, many)
				checkStretch(t, other, none, 3, many)
			}
		}
	}
}

func TestStretchOfEachRound(t *testing.T) {
	words, salt := []byte("what is remembered"), someBytes(20)
	for rounds := 1; rounds <= impl.MaxRounds; rounds++ {
		for _, many := range stretchSizes {
			checkStretch(t, words, salt, rounds, many)
		}
	}
	for _, rounds := range noStretchRounds {
		for _, many := range stretchSizes {
			checkNoStretch(t, words, salt, rounds, many)
		}
	}
	for rounds := -300; rounds <= 300; rounds++ {
		if got := impl.Stretch(words, salt, rounds, 40); (len(got) == 40) != (rounds >= 1 && rounds <= impl.MaxRounds) {
			t.Errorf("Stretch of %d rounds has %d bytes", rounds, len(got))
		}
	}
}

func TestStretchToEachSize(t *testing.T) {
	for _, c := range []struct {
		words, salt []byte
		rounds      int
	}{
		{nil, nil, 1}, {[]byte("words"), []byte("salt"), 1}, {[]byte("words"), []byte("salt"), 2}, {someBytes(65), someBytes(64), 7}, {someBytes(mostRemembered), someBytes(mostRemembered), impl.MaxRounds},
	} {
		longest := impl.Stretch(c.words, c.salt, c.rounds, mostStretched)
		if want := stretchOf(c.words, c.salt, c.rounds, mostStretched); !bytes.Equal(longest, want) {
			t.Fatalf("Stretch of %d and %d bytes, %d = %x, want %x", len(c.words), len(c.salt), c.rounds, longest, want)
		}
		for many := 1; many <= mostStretched; many++ {
			if got := impl.Stretch(c.words, c.salt, c.rounds, many); len(got) != many || !bytes.HasPrefix(longest, got) {
				t.Fatalf("Stretch to %d bytes = %x: the longest, %x, does not begin so", many, got, longest)
			}
		}
		for _, many := range noStretchSizes {
			checkNoStretch(t, c.words, c.salt, c.rounds, many)
		}
	}
	for many := -300; many <= 300; many++ {
		want := many
		if many < 1 || many > mostStretched {
			want = 0
		}
		if got := impl.Stretch([]byte("words"), nil, 1, many); len(got) != want {
			t.Errorf("Stretch to %d bytes has %d", many, len(got))
		}
	}
}

// However many of the four are not so: nothing.
func TestStretchOfMuchThatIsNotSo(t *testing.T) {
	long := someBytes(mostRemembered + 1)
	for _, rounds := range noStretchRounds {
		for _, many := range noStretchSizes {
			for _, words := range [][]byte{nil, []byte("words"), long} {
				for _, salt := range [][]byte{nil, []byte("salt"), long} {
					checkNoStretch(t, words, salt, rounds, many)
				}
			}
		}
	}
	for _, many := range noStretchSizes {
		checkNoStretch(t, long, nil, 3, many)
		checkNoStretch(t, nil, long, 3, many)
		checkNoStretch(t, nil, nil, many, many)
	}
}

func TestStretchByOneRoundIsMac(t *testing.T) {
	for _, wordsMany := range rememberedSizes {
		for _, saltMany := range rememberedSizes {
			words, salt := someBytes(wordsMany), someBytes(saltMany)
			var want []byte
			for i := 1; i <= 3; i++ {
				want = append(want, impl.Mac(words, slices.Concat(salt, impl.Great(i, 4)))...)
			}
			if got := impl.Stretch(words, salt, 1, mostStretched); !bytes.Equal(got, want) {
				t.Errorf("Stretch of %d and %d bytes by one round = %x, want %x", wordsMany, saltMany, got, want)
			}
		}
	}
}

// What one more round turns in each F(i) is Mac of what the round ahead of it turned.
func TestStretchGoesOnRoundByRound(t *testing.T) {
	for _, wordsMany := range rememberedSizes {
		words, salt := someBytes(wordsMany), someBytes(30)
		was := impl.Stretch(words, salt, 1, mostStretched)
		turned := slices.Collect(slices.Chunk(was, 32))
		for rounds := 2; rounds <= impl.MaxRounds; rounds++ {
			now := impl.Stretch(words, salt, rounds, mostStretched)
			for i := range turned {
				turned[i] = impl.Mac(words, turned[i])
			}
			if got, want := impl.Xor(was, now), slices.Concat(turned...); !bytes.Equal(got, want) {
				t.Fatalf("by %d bytes round %d turns %x, want %x", wordsMany, rounds, got, want)
			}
			was = now
		}
	}
}

// Each bit of words and salt counts, and so does where the one ends and the other begins.
func TestStretchTellsWordsApart(t *testing.T) {
	seen := map[string]bool{}
	add := func(what string, words, salt []byte, rounds int) {
		t.Helper()
		for _, part := range [][]byte{impl.Stretch(words, salt, rounds, 32), impl.Stretch(words, salt, rounds, mostStretched)[32:64], impl.Stretch(words, salt, rounds, mostStretched)[64:]} {
			if seen[string(part)] {
				t.Fatalf("%s: %x of %x and %x was there already", what, part, words, salt)
			}
			seen[string(part)] = true
		}
	}
	words, salt := someBytes(64), someBytes(20)
	for rounds := range impl.MaxRounds {
		add("another round", words, salt, rounds+1)
	}
	for bit := range 8 * len(words) {
		add("other words", bent(words, bit/8, 1<<(bit%8)), salt, 3)
	}
	for bit := range 8 * len(salt) {
		add("another salt", words, bent(salt, bit/8, 1<<(bit%8)), 3)
	}
	for cut := range len(words) {
		add("cut words", words[:cut], salt, 3)
		add("another border", words[:cut], words[cut:], 3)
	}
	for cut := range len(salt) {
		add("a cut salt", words, salt[:cut], 3)
	}
	for more := 1; more <= 33; more++ {
		add("bytes 0 behind a salt", words, slices.Concat(salt, make([]byte, more)), 3)
		add("bytes 0 ahead of a salt", words, slices.Concat(make([]byte, more), salt), 3)
	}
}

// As words are the key of a code, bytes 0 behind them up to a block are none, and the hash of more than a block stands for it.
func TestStretchTakesWordsAsACodeDoes(t *testing.T) {
	salt := []byte("salt")
	for many := range 64 {
		words := someBytes(many)
		for more := 1; many+more <= 64; more++ {
			filled := slices.Concat(words, make([]byte, more))
			if !bytes.Equal(impl.Stretch(words, salt, 3, 44), impl.Stretch(filled, salt, 3, 44)) {
				t.Fatalf("words of %d bytes with %d bytes 0 behind are others", many, more)
			}
			if more == 1 {
				checkUnwraps(t, filled, salt, wrapOf(words, salt, []byte("a text")), []byte("a text"))
			}
		}
	}
	for many := range 200 {
		words := someBytes(many)
		alike := bytes.Equal(impl.Stretch(words, salt, 3, 44), impl.Stretch(impl.Hash(words), salt, 3, 44))
		if alike != (many > 64) {
			t.Errorf("words of %d bytes and their hash: %t", many, alike)
		}
	}
}

// The number behind a salt is four bytes, great: a salt that ends as such a number does not stand for another.
func TestStretchNumbersItsParts(t *testing.T) {
	words := []byte("words")
	for _, salt := range [][]byte{nil, {0}, {0, 0, 0, 1}, {1}, {1, 0, 0, 0}, {255, 255, 255, 255}, {0, 0, 0, 2}, {0, 0, 0, 1, 0, 0, 0, 2}} {
		for _, rounds := range stretchRounds {
			checkStretch(t, words, salt, rounds, mostStretched)
		}
		two := impl.Stretch(words, salt, 1, 64)[32:]
		if want := macOf(words, slices.Concat(salt, []byte{0, 0, 0, 2})); !bytes.Equal(two, want) {
			t.Errorf("the second part of the salt %x = %x, want %x", salt, two, want)
		}
	}
}

// Promise 22: who remembers opens; with another end of words or of the salt, or with any byte turned, it is not opened.
func TestWhoRemembersOpens(t *testing.T) {
	from := rand.New(rand.NewSource(23))
	for range 400 {
		words, salt, b := drawnBytes(from, 40), drawnBytes(from, 40), drawnBytes(from, 100)
		switch from.Intn(8) {
		case 0:
			words, salt = drawnBytes(from, mostRemembered-1), drawnBytes(from, mostRemembered-1)
		case 1:
			b = drawnBytes(from, impl.MaxPlain)
		}
		box := checkWrapped(t, words, salt, b)
		checkNotUnwrapped(t, "words that go on", slices.Concat(words, []byte{byte(1 + from.Intn(255))}), salt, box)
		checkNotUnwrapped(t, "a salt that goes on", words, slices.Concat(salt, []byte{byte(from.Intn(256))}), box)
		if len(words) > 0 {
			end := len(words) - 1
			checkNotUnwrapped(t, "words of another end", bent(words, end, byte(1+from.Intn(255))), salt, box)
			checkNotUnwrapped(t, "words without their end", words[:end], salt, box)
		}
		if len(salt) > 0 {
			end := len(salt) - 1
			checkNotUnwrapped(t, "a salt of another end", words, bent(salt, end, byte(1+from.Intn(255))), box)
			checkNotUnwrapped(t, "a salt without its end", words, salt[:end], box)
		}
		for range 8 {
			checkNotUnwrapped(t, "a turned byte", words, salt, bent(box, from.Intn(len(box)), byte(1+from.Intn(255))))
		}
	}
}

func TestWhatIsWrappedIsUnwrappedOfEachSize(t *testing.T) {
	all, words, salt := someBytes(impl.MaxPlain), []byte("what is remembered"), someBytes(16)
	for many := range impl.MaxPlain + 1 {
		// Beyond some blocks few will do: with each seventh every place of a block has its turn.
		if many > 200 && many < impl.MaxPlain-70 && many%7 != 0 {
			continue
		}
		if box := checkWrapped(t, words, salt, all[:many]); len(box) != many+16 {
			t.Fatalf("%d bytes wrapped have %d", many, len(box))
		}
	}
}

func TestWhatIsWrappedIsUnwrappedAtTheEdges(t *testing.T) {
	for _, wordsMany := range rememberedSizes {
		for _, saltMany := range rememberedSizes {
			words, salt := someBytes(wordsMany), someBytes(saltMany)
			for _, many := range []int{0, 1, 16, impl.MaxPlain - 1, impl.MaxPlain} {
				box := checkWrapped(t, words, salt, someBytes(many))
				checkNotUnwrapped(t, "another tag", words, salt, bent(box, many+15, 128))
				checkNotUnwrapped(t, "a first byte turned", words, salt, bent(box, 0, 1))
				if wordsMany > 0 {
					checkNotUnwrapped(t, "other words", bent(words, wordsMany-1, 1), salt, box)
				}
				if saltMany > 0 {
					checkNotUnwrapped(t, "another salt", words, bent(salt, saltMany-1, 1), box)
				}
			}
		}
	}
}

// The parts of Stretch have their places: 32 bytes are the key, the 12 behind them the nonce, by 3 rounds, and salt goes with the text.
func TestWrapIsASeal(t *testing.T) {
	words, salt, b := []byte("words"), []byte("a salt"), []byte("what is put away")
	box := checkWrapped(t, words, salt, b)
	both := impl.Stretch(words, salt, 3, 44)
	checkOpens(t, both[:32], both[32:], salt, box, b)
	if got, ok := impl.Seal(both[:32], both[32:], salt, b); !ok || !bytes.Equal(got, box) {
		t.Errorf("Seal = %x, %t, want %x", got, ok, box)
	}
	checkNotUnwrapped(t, "the nonce ahead of the key", words, salt, sealOf(both[12:], both[:12], salt, b))
	checkNotUnwrapped(t, "without the salt", words, salt, sealOf(both[:32], both[32:], nil, b))
	checkNotUnwrapped(t, "with words", words, salt, sealOf(both[:32], both[32:], words, b))
	for _, rounds := range []int{1, 2, 4, impl.MaxRounds} {
		other := impl.Stretch(words, salt, rounds, 44)
		checkNotUnwrapped(t, "by other rounds", words, salt, sealOf(other[:32], other[32:], salt, b))
		checkNotUnwrapped(t, "by the nonce of other rounds", words, salt, sealOf(both[:32], other[32:], salt, b))
	}
	checkNotUnwrapped(t, "by a nonce of the next part", words, salt, sealOf(both[:32], impl.Stretch(words, salt, 3, 96)[64:76], salt, b))
}

// Each bit of words and of the salt, of short texts; where they are cut, where one changes places with the other.
func TestWithOtherWordsItIsNotOpened(t *testing.T) {
	for _, many := range []int{0, 1, 16, 70} {
		words, salt := []byte("twelve words"), []byte("a grain of it")
		box := checkWrapped(t, words, salt, someBytes(many))
		for bit := range 8 * len(words) {
			checkNotUnwrapped(t, "other words", bent(words, bit/8, 1<<(bit%8)), salt, box)
		}
		for bit := range 8 * len(salt) {
			checkNotUnwrapped(t, "another salt", words, bent(salt, bit/8, 1<<(bit%8)), box)
		}
		for cut := range len(words) {
			checkNotUnwrapped(t, "words cut behind", words[:cut], salt, box)
			checkNotUnwrapped(t, "words cut ahead", words[cut+1:], salt, box)
		}
		for cut := range len(salt) {
			checkNotUnwrapped(t, "a salt cut behind", words, salt[:cut], box)
			checkNotUnwrapped(t, "a salt cut ahead", words, salt[cut+1:], box)
		}
		for x := range 256 {
			if x > 0 {
				checkNotUnwrapped(t, "words that go on", slices.Concat(words, []byte{byte(x)}), salt, box)
			}
			checkNotUnwrapped(t, "a salt that goes on", words, slices.Concat(salt, []byte{byte(x)}), box)
			checkNotUnwrapped(t, "words behind a byte", slices.Concat([]byte{byte(x)}, words), salt, box)
			checkNotUnwrapped(t, "a salt behind a byte", words, slices.Concat([]byte{byte(x)}, salt), box)
		}
		checkNotUnwrapped(t, "one for the other", salt, words, box)
		checkNotUnwrapped(t, "words alone", words, nil, box)
		checkNotUnwrapped(t, "the salt alone", nil, salt, box)
		checkNotUnwrapped(t, "nothing", nil, nil, box)
		checkNotUnwrapped(t, "another border", slices.Concat(words, salt[:1]), salt[1:], box)
		checkNotUnwrapped(t, "all in the words", slices.Concat(words, salt), nil, box)
	}
}

func TestWhatWasWrappedAndTurnedIsNotOpened(t *testing.T) {
	words, salt := []byte("words"), []byte("salt")
	for _, many := range []int{0, 1, 15, 16, 17, 50} {
		box := checkWrapped(t, words, salt, someBytes(many))
		for bit := range 8 * len(box) {
			checkNotUnwrapped(t, "a turned bit", words, salt, bent(box, bit/8, 1<<(bit%8)))
		}
		for place := range box {
			checkNotUnwrapped(t, "a turned byte", words, salt, bent(box, place, 255))
		}
	}
	box := checkWrapped(t, words, salt, someBytes(impl.MaxPlain))
	for place := range box {
		checkNotUnwrapped(t, "a turned byte of the longest", words, salt, bent(box, place, 1<<(place%8)))
	}
}

// Cut behind or ahead, or with bytes more: also with what was cut off in the spare room.
func TestWhatWasWrappedAndCutIsNotOpened(t *testing.T) {
	words, salt := []byte("words"), []byte("salt")
	for _, many := range []int{0, 1, 15, 16, 17, 64, 100} {
		box := checkWrapped(t, words, salt, someBytes(many))
		for cut := range box {
			checkNotUnwrapped(t, "cut behind", words, salt, box[:cut])
			checkNotUnwrapped(t, "cut behind, without room", words, salt, bytes.Clone(box[:cut]))
			checkNotUnwrapped(t, "cut ahead", words, salt, box[cut+1:])
		}
		for more := 1; more <= 17; more++ {
			checkNotUnwrapped(t, "bytes 0 behind", words, salt, slices.Concat(box, make([]byte, more)))
			checkNotUnwrapped(t, "bytes 0 ahead", words, salt, slices.Concat(make([]byte, more), box))
		}
		checkNotUnwrapped(t, "twice", words, salt, slices.Concat(box, box))
		checkNotUnwrapped(t, "nothing at all", words, salt, nil)
	}
	for many := range 40 {
		checkNotUnwrapped(t, "bytes 0", words, salt, make([]byte, many))
		checkNotUnwrapped(t, "bytes 0, by nothing", nil, nil, make([]byte, many))
		checkNotUnwrapped(t, "any bytes", words, salt, someBytes(many))
	}
}

// Nothing is a text like others, and so are no words and no salt.
func TestWrapOfNothing(t *testing.T) {
	room := someBytes(40)
	for _, words := range [][]byte{nil, {}, room[:0], []byte("words")} {
		for _, salt := range [][]byte{nil, {}, room[:0], []byte("salt")} {
			for _, b := range [][]byte{nil, {}, room[:0]} {
				if box := checkWrapped(t, words, salt, b); len(box) != 16 {
					t.Fatalf("nothing is wrapped to %x", box)
				}
			}
			checkWrapped(t, words, salt, []byte("a text"))
		}
	}
}

// Beyond the limits nothing is answered, also where a seal by what were the keys is right.
func TestWrapOfTooLongWords(t *testing.T) {
	for _, many := range noRememberedSizes {
		long := someBytes(many)
		for _, b := range [][]byte{nil, []byte("a text"), someBytes(impl.MaxPlain), someBytes(impl.MaxPlain + 1)} {
			checkNotWrapped(t, "too long words", long, []byte("salt"), b)
			checkNotUnwrapped(t, "too long words", long, []byte("salt"), wrapOf(long, []byte("salt"), b))
			checkNotWrapped(t, "too long a salt", []byte("words"), long, b)
			checkNotUnwrapped(t, "too long a salt", []byte("words"), long, wrapOf([]byte("words"), long, b))
			checkNotWrapped(t, "both too long", long, long, b)
			checkNotUnwrapped(t, "both too long", long, long, wrapOf(long, long, b))
			checkNotUnwrapped(t, "too long, and no seal", long, long, b)
			// Nothing, or bytes 0, would be the keys of those that have none.
			checkNotUnwrapped(t, "by bytes 0", long, []byte("salt"), sealOf(make([]byte, 32), make([]byte, 12), []byte("salt"), b))
		}
	}
}

func TestWrapOfTooLongTexts(t *testing.T) {
	for _, words := range [][]byte{nil, []byte("words"), someBytes(mostRemembered)} {
		for _, salt := range [][]byte{nil, []byte("salt"), someBytes(mostRemembered)} {
			checkWrapped(t, words, salt, someBytes(impl.MaxPlain))
			for _, many := range []int{impl.MaxPlain + 1, impl.MaxPlain + 16, impl.MaxPlain + 17, impl.MaxHash, impl.MaxHash + 1, 1 << 17} {
				long := someBytes(many)
				checkNotWrapped(t, "too long a text", words, salt, long)
				checkNotUnwrapped(t, "too long a text", words, salt, wrapOf(words, salt, long))
				checkNotUnwrapped(t, "too long, and no seal", words, salt, long)
			}
			// The longest that are opened, with a byte more.
			checkNotUnwrapped(t, "a byte more", words, salt, slices.Concat(wrapOf(words, salt, someBytes(impl.MaxPlain)), []byte{0}))
		}
	}
}

// What is unwrapped hangs on the seal alone: what another sealed by these keys is, too.
func TestWhatIsRightlySealedIsUnwrapped(t *testing.T) {
	words, salt := []byte("words"), []byte("salt")
	both := stretchOf(words, salt, 3, 44)
	key, nonce := both[:32], both[32:]
	for _, many := range sealLengths {
		for _, streamed := range [][]byte{make([]byte, many), bytes.Repeat([]byte{255}, many), someBytes(many)} {
			checkUnwraps(t, words, salt, tagged(key, nonce, salt, streamed), streamOf(key, 1, nonce, streamed))
		}
	}
}

func TestStretchLeavesItsArgumentsAlone(t *testing.T) {
	box := wrapOf(someBytes(20), someBytes(30), someBytes(50))
	// Each has room behind it, in which the next one stands.
	backing := slices.Concat(someBytes(20), someBytes(30), someBytes(50), box, someBytes(500))
	kept := bytes.Clone(backing)
	words, salt, b, same := backing[:20], backing[20:50], backing[50:100], backing[100:166]
	for _, rounds := range slices.Concat(stretchRounds, noStretchRounds) {
		for _, many := range slices.Concat(stretchSizes, noStretchSizes) {
			impl.Stretch(words, salt, rounds, many)
			impl.Stretch(words[:0], salt[:0], rounds, many)
		}
	}
	for _, most := range []int{63, 64, 65, 399, 400, 401} {
		impl.Stretch(backing[:most], backing[1:1+most], 2, 70)
		impl.Wrap(backing[:most], backing[:most], backing[:most])
		impl.Unwrap(backing[:most], backing[:most], backing[:most])
	}
	if _, ok := impl.Wrap(words, salt, b); !ok {
		t.Error("it is not wrapped")
	}
	if _, ok := impl.Unwrap(words, salt, same); !ok {
		t.Error("it is not unwrapped")
	}
	for many := range 66 {
		impl.Unwrap(words, salt, same[:many])
	}
	impl.Wrap(words, salt, b[:0])
	impl.Wrap(words[:0], salt[:0], b[:0])
	if !bytes.Equal(backing, kept) {
		t.Errorf("bytes turned into %x, want %x", backing, kept)
	}
}

// Words, salt and text may be the same bytes, or pieces of them: each counts for itself.
func TestStretchOfWhatSharesItsMemory(t *testing.T) {
	for _, many := range []int{0, 1, 32, 63, 64, 65, 399, mostRemembered} {
		all := someBytes(many)
		kept := bytes.Clone(all)
		for _, rounds := range stretchRounds {
			checkStretch(t, all, all, rounds, mostStretched)
			checkStretch(t, all[:many/2], all, rounds, 33)
			checkStretch(t, all, all[many/2:], rounds, 33)
			checkStretch(t, all[:many/2], all[many/2:], rounds, 33)
		}
		checkWrapped(t, all, all, all)
		checkWrapped(t, all[:many/2], all[many/3:], all)
		checkWrapped(t, all, all[:many/2], all[many/2:])
		if !bytes.Equal(all, kept) {
			t.Errorf("bytes turned into %x, want %x", all, kept)
		}
	}
	// What was wrapped, with its words and its salt ahead of it in one piece.
	whole := slices.Concat([]byte("words"), []byte("salt"), wrapOf([]byte("words"), []byte("salt"), []byte("a text")))
	checkUnwraps(t, whole[:5], whole[5:9], whole[9:], []byte("a text"))
	box := whole[9:]
	checkNotUnwrapped(t, "by itself", box, box, box)
}

func TestStretchAnswersAnewEachTime(t *testing.T) {
	for _, many := range []int{0, 1, 16, 32, 48, 100} {
		words, salt, b := someBytes(many), someBytes(many+1), someBytes(many)
		box := wrapOf(words, salt, b)
		for name, ask := range map[string]func() []byte{
			"Stretch by one round":     func() []byte { return impl.Stretch(words, salt, 1, 32) },
			"Stretch by one, cut":      func() []byte { return impl.Stretch(words, salt, 1, 31) },
			"Stretch by three":         func() []byte { return impl.Stretch(words, salt, 3, 44) },
			"Stretch by all":           func() []byte { return impl.Stretch(words, salt, impl.MaxRounds, mostStretched) },
			"Stretch of one for both":  func() []byte { return impl.Stretch(words, words, 2, 64) },
			"Wrap":                     func() []byte { answer, _ := impl.Wrap(words, salt, b); return answer },
			"Unwrap":                   func() []byte { answer, _ := impl.Unwrap(words, salt, box); return answer },
			"Wrap of one for all":      func() []byte { answer, _ := impl.Wrap(b, b, b); return answer },
			"Unwrap of one that is no": func() []byte { answer, _ := impl.Unwrap(words, salt, b); return answer },
		} {
			checkAnew(t, name, ask)
		}
		if !bytes.Equal(words, someBytes(many)) || !bytes.Equal(salt, someBytes(many+1)) || !bytes.Equal(b, someBytes(many)) || !bytes.Equal(box, wrapOf(words, salt, b)) {
			t.Errorf("an answer of %d bytes shares memory with what it was given", many)
		}
	}
}

// An answer stays as it was when what it was made of is written over behind the call.
func TestStretchKeepsNothingOfItsArguments(t *testing.T) {
	for _, many := range []int{1, 32, 64, 100} {
		words, salt, b := someBytes(many), someBytes(many), someBytes(many)
		wantBox := wrapOf(words, salt, b)
		box := bytes.Clone(wantBox)
		wantKey := stretchOf(words, salt, 1, 32)
		key := impl.Stretch(words, salt, 1, 32)
		wrapped, _ := impl.Wrap(words, salt, b)
		plain, _ := impl.Unwrap(words, salt, box)
		for _, list := range [][]byte{words, salt, b, box} {
			clear(list)
		}
		if !bytes.Equal(key, wantKey) || !bytes.Equal(wrapped, wantBox) || !bytes.Equal(plain, someBytes(many)) {
			t.Errorf("of %d bytes: an answer changed with what it was made of", many)
		}
		checkUnwraps(t, someBytes(many), someBytes(many), wrapped, plain)
	}
}

func TestStretchOfManyAtATime(t *testing.T) {
	words, salt, b := someBytes(20), someBytes(30), someBytes(300)
	want, box := stretchOf(words, salt, 10, mostStretched), wrapOf(words, salt, b)
	var all sync.WaitGroup
	for range 16 {
		all.Go(func() {
			for i := range 20 {
				if got := impl.Stretch(words, salt, 10, mostStretched); !bytes.Equal(got, want) {
					t.Errorf("Stretch = %x, want %x", got, want)
				}
				if got, ok := impl.Wrap(words, salt, b); !ok || !bytes.Equal(got, box) {
					t.Errorf("Wrap = %x, %t, want %x", got, ok, box)
				}
				if got, ok := impl.Unwrap(words, salt, box); !ok || !bytes.Equal(got, b) {
					t.Errorf("Unwrap = %x, %t, want %x", got, ok, b)
				}
				if got, ok := impl.Unwrap(words, bent(salt, i, 1), box); ok || len(got) != 0 {
					t.Errorf("Unwrap with another salt = %x, %t, want nothing and false", got, ok)
				}
			}
		})
	}
	all.Wait()
}
