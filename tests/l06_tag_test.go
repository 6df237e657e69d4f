package tests

import (
	"bytes"
	"math/big"
	"math/rand"
	"slices"
	"strings"
	"sync"
	"testing"

	"loop.example/g00473/impl"
)

// power is 2 to the so many-th, less something.
func power(many uint, less int64) *big.Int {
	n := new(big.Int).Lsh(big.NewInt(1), many)
	return n.Sub(n, big.NewInt(less))
}

func littleNumber(b []byte) *big.Int {
	high := bytes.Clone(b)
	slices.Reverse(high)
	return new(big.Int).SetBytes(high)
}

// sixteenOf are the low 16 bytes of a number, little.
func sixteenOf(n *big.Int) []byte {
	low := new(big.Int).Mod(n, power(128, 0))
	b := low.FillBytes(make([]byte, 16))
	slices.Reverse(b)
	return b
}

// tagNumberOf is what the tag comes to ahead of s, in numbers without a border.
func tagNumberOf(key, b []byte) *big.Int {
	counted, _ := new(big.Int).SetString("0ffffffc0ffffffc0ffffffc0fffffff", 16)
	r := littleNumber(key[:16])
	r.And(r, counted)
	sum := new(big.Int)
	for at := 0; at < len(b); at += 16 {
		block := slices.Concat(b[at:min(at+16, len(b))], []byte{1})
		sum.Add(sum, littleNumber(block))
		sum.Mul(sum, r)
		sum.Mod(sum, power(130, 5))
	}
	return sum
}

func tagOf(key, b []byte) []byte {
	return sixteenOf(new(big.Int).Add(tagNumberOf(key, b), littleNumber(key[16:])))
}

// keyOf has r and s as its two halves.
func keyOf(r, s *big.Int) []byte { return slices.Concat(sixteenOf(r), sixteenOf(s)) }

func checkTag(t *testing.T, key, b []byte) {
	t.Helper()
	if got, want := impl.Tag(key, b), tagOf(key, b); !bytes.Equal(got, want) {
		t.Fatalf("Tag(%x, %x) = %x, want %x", key, b, got, want)
	}
}

// The examples that were published with the tag (RFC 8439, 2.5.2 and A.3).
func TestTag(t *testing.T) {
	contribution := "Any submission to the IETF intended by the Contributor for publication as all or part of an IETF Internet-Draft or RFC and any statement made within the context of an IETF activity is considered an \"IETF Contribution\". Such statements include oral statements in IETF sessions, as well as written and electronic communications made at any time or place, which are addressed to"
	jabberwocky := "'Twas brillig, and the slithy toves\nDid gyre and gimble in the wabe:\nAll mimsy were the borogoves,\nAnd the mome raths outgrabe."
	zeros, ones := strings.Repeat("00", 16), strings.Repeat("ff", 16)
	half := "36e5f6b5c5e06070f0efca96227a863e"
	one, two := "01"+zeros[2:], "02"+zeros[2:]
	high := "0100000000000000 0400000000000000"
	for _, c := range []struct{ key, text, want string }{
		{"85d6be7857556d337f4452fe42d506a8 0103808afb0db2fd4abff6af4149f51b", impl.Hex([]byte("Cryptographic Forum Research Group")), "a8061dc1305136c6c22b8baf0c0127a9"},
		{zeros + zeros, strings.Repeat("00", 64), zeros},
		{zeros + half, impl.Hex([]byte(contribution)), half},
		{half + zeros, impl.Hex([]byte(contribution)), "f3477e7cd95417af89a6b8794c310cf0"},
		{"1c9240a5eb55d38af333888604f6b5f0 473917c1402b80099dca5cbc207075c0", impl.Hex([]byte(jabberwocky)), "4541669a7eaaee61e708dc7cbcc5eb62"},
		{two + zeros, ones, "03" + zeros[2:]},
		{two + ones, two, "03" + zeros[2:]},
		{one + zeros, ones + "f0" + ones[2:] + "11" + zeros[2:], "05" + zeros[2:]},
		{one + zeros, ones + "fb" + strings.Repeat("fe", 15) + strings.Repeat("01", 16), zeros},
		{two + zeros, "fd" + ones[2:], "fa" + ones[2:]},
		{high + zeros, "e33594d7505e43b90000000000000000 3394d7505e4379cd0100000000000000" + zeros + one, "14000000000000005500000000000000"},
		{high + zeros, "e33594d7505e43b90000000000000000 3394d7505e4379cd0100000000000000" + zeros, "13000000000000000000000000000000"},
	} {
		key, text := unhexed(t, c.key), unhexed(t, c.text)
		if got := impl.Hex(impl.Tag(key, text)); got != c.want {
			t.Errorf("Tag(%s, %s) = %s, want %s", c.key, c.text, got, c.want)
		}
		// What the other tests hold against is held here itself.
		if got := impl.Hex(tagOf(key, text)); got != c.want {
			t.Errorf("the tests' own tag by %s of %s = %s, want %s", c.key, c.text, got, c.want)
		}
	}
}

// Promise 6: at each length that is accepted there are 16 bytes, and the right ones.
func TestTagHasSixteenBytes(t *testing.T) {
	all, key := someBytes(impl.MaxHash), someBytes(32)
	for many := range impl.MaxHash + 1 {
		got := impl.Tag(key, all[:many])
		if len(got) != 16 {
			t.Fatalf("Tag of %d bytes has %d bytes", many, len(got))
		}
		checkTag(t, key, all[:many])
	}
}

func TestTagOfNothingIsTheLastHalfOfTheKey(t *testing.T) {
	ones := bytes.Repeat([]byte{255}, 32)
	for _, key := range [][]byte{allBytes()[:32], allBytes()[224:], make([]byte, 32), ones, someBytes(32)} {
		for _, b := range [][]byte{nil, {}, make([]byte, 0, 40)} {
			if got := impl.Tag(key, b); !bytes.Equal(got, key[16:]) {
				t.Errorf("Tag(%x, nothing) = %x, want %x", key, got, key[16:])
			}
		}
	}
}

// Bytes 0 at the end count: a text that is short of a block is not the block with bytes 0 up to it.
func TestTagKnowsHowLongATextIs(t *testing.T) {
	for _, fill := range []byte{0, 1, 255} {
		for _, key := range [][]byte{someBytes(32), bytes.Repeat([]byte{255}, 32), keyOf(big.NewInt(1), new(big.Int))} {
			var before []byte
			for many := range 100 {
				b := bytes.Repeat([]byte{fill}, many)
				checkTag(t, key, b)
				got := impl.Tag(key, slices.Concat(b, []byte{0}))
				if bytes.Equal(got, impl.Tag(key, b)) || bytes.Equal(got, before) {
					t.Errorf("a byte 0 behind %d bytes %d changes nothing by the key %x", many, fill, key)
				}
				before = got
			}
		}
	}
}

// Of the first half, the high 4 bits of the bytes 3, 7, 11, 15 and the low 2 of 4, 8, 12 do not count; all others do.
func TestTagOfTheBitsThatCount(t *testing.T) {
	b, key := someBytes(77), someBytes(32)
	was := impl.Tag(key, b)
	for bit := range 256 {
		place, mask := bit/8, byte(1)<<(bit%8)
		counts := true
		switch place {
		case 3, 7, 11, 15:
			counts = mask < 16
		case 4, 8, 12:
			counts = mask > 2
		}
		other := bytes.Clone(key)
		other[place] ^= mask
		if got := impl.Tag(other, b); bytes.Equal(got, was) == counts {
			t.Errorf("the bit %d of the byte %d of the key: Tag = %x, was %x", bit%8, place, got, was)
		}
		checkTag(t, other, b)
	}
}

func TestTagOfAnotherTextIsAnother(t *testing.T) {
	key, b := someBytes(32), someBytes(50)
	was := impl.Tag(key, b)
	for bit := range 8 * len(b) {
		other := bytes.Clone(b)
		other[bit/8] ^= 1 << (bit % 8)
		if bytes.Equal(impl.Tag(key, other), was) {
			t.Errorf("the bit %d of the text counts for nothing", bit)
		}
	}
	swapped := slices.Concat(b[16:32], b[:16], b[32:])
	if bytes.Equal(impl.Tag(key, swapped), was) {
		t.Error("in which order the blocks stand counts for nothing")
	}
}

func TestTagOfBytes255(t *testing.T) {
	ones := bytes.Repeat([]byte{255}, impl.MaxHash)
	keys := [][]byte{ones[:32], slices.Concat(ones[:16], make([]byte, 16)), slices.Concat(make([]byte, 16), ones[:16]), keyOf(big.NewInt(1), power(128, 1)), keyOf(big.NewInt(2), power(128, 1))}
	for _, key := range keys {
		for many := range 300 {
			checkTag(t, key, ones[:many])
		}
		for many := impl.MaxHash - 33; many <= impl.MaxHash; many++ {
			checkTag(t, key, ones[:many])
			checkTag(t, key, make([]byte, many))
		}
	}
}

// By r of 1 three blocks come to what they are together: here to 2 to the 130th less 5, and to what stands around it.
func TestTagOfNumbersAroundTheOneThatIsTakenAway(t *testing.T) {
	for past := int64(-20); past <= 40; past++ {
		first := new(big.Int).Add(power(128, 5), big.NewInt(past))
		second := new(big.Int)
		if first.Cmp(power(128, 1)) > 0 {
			second.Sub(first, power(128, 1))
			first = power(128, 1)
		}
		b := slices.Concat(sixteenOf(first), sixteenOf(second), make([]byte, 16))
		want := big.NewInt(past)
		if past < 0 {
			want.Add(want, power(130, 5))
		}
		for _, s := range []*big.Int{new(big.Int), big.NewInt(1), big.NewInt(4), big.NewInt(5), power(128, 1), power(128, 5), power(127, 0), littleNumber(someBytes(16))} {
			key := keyOf(big.NewInt(1), s)
			if got := impl.Tag(key, b); !bytes.Equal(got, sixteenOf(new(big.Int).Add(want, s))) {
				t.Errorf("%d past it, and s %x: Tag = %x", past, s, got)
			}
			checkTag(t, key, b)
		}
	}
}

// What goes over 16 bytes when s is put to it is left away, also where all bytes are carried through.
func TestTagGoesRoundWhenTheLastHalfIsPutToIt(t *testing.T) {
	b := someBytes(40)
	key := someBytes(32)
	number := new(big.Int).Mod(tagNumberOf(key, b), power(128, 0))
	up := new(big.Int).Sub(power(128, 0), number)
	for past := int64(-3); past <= 3; past++ {
		s := new(big.Int).Add(up, big.NewInt(past))
		round := slices.Concat(key[:16], sixteenOf(s))
		if got, want := impl.Tag(round, b), sixteenOf(big.NewInt(past)); !bytes.Equal(got, want) {
			t.Errorf("%d past 2 to the 128th: Tag = %x, want %x", past, got, want)
		}
	}
	// Each bit of s by itself, put to numbers that have bits 1 all through.
	for bit := range uint(128) {
		for _, text := range [][]byte{bytes.Repeat([]byte{255}, 16), bytes.Repeat([]byte{255}, 48), sixteenOf(power(bit, 0)), sixteenOf(power(bit, 1))} {
			checkTag(t, keyOf(big.NewInt(1), power(bit, 0)), text)
			checkTag(t, keyOf(power(bit, 0), power(bit, 1)), text)
		}
	}
}

// Texts and keys of a few kinds of bytes come to carries that random ones hardly come to.
func TestTagOfManyKeysAndTexts(t *testing.T) {
	from := rand.New(rand.NewSource(6))
	kinds := []byte{0, 0, 255, 255, 1, 3, 4, 127, 128, 251, 252, 254}
	fill := func(b []byte) []byte {
		from.Read(b)
		if from.Intn(3) > 0 {
			for i := range b {
				b[i] = kinds[from.Intn(len(kinds))]
			}
		}
		return b
	}
	for range 20000 {
		checkTag(t, fill(make([]byte, 32)), fill(make([]byte, from.Intn(100))))
	}
}

func TestTagByKeysOfOtherSizes(t *testing.T) {
	for _, b := range [][]byte{nil, []byte("abc"), make([]byte, 16), someBytes(impl.MaxHash)} {
		for many := range 200 {
			want := 0
			if many == 32 {
				want = 16
			}
			if got := impl.Tag(someBytes(many), b); len(got) != want {
				t.Errorf("Tag by %d bytes of %d = %x", many, len(b), got)
			}
		}
		if got := impl.Tag(nil, b); len(got) != 0 {
			t.Errorf("Tag by nothing = %x", got)
		}
	}
	// Spare room behind a key is no part of it.
	if got := impl.Tag(make([]byte, 31, 64), nil); len(got) != 0 {
		t.Errorf("Tag by 31 bytes with room behind = %x", got)
	}
}

func TestTagOfTooManyBytes(t *testing.T) {
	key := someBytes(32)
	for _, many := range []int{impl.MaxHash - 1, impl.MaxHash, impl.MaxHash + 1, impl.MaxHash + 15, impl.MaxHash + 16, 2 * impl.MaxHash, 1 << 20} {
		want := 16
		if many > impl.MaxHash {
			want = 0
		}
		if got := impl.Tag(key, make([]byte, many)); len(got) != want {
			t.Errorf("Tag of %d bytes = %x, want %d bytes", many, got, want)
		}
		if got := impl.Tag(key[1:], make([]byte, many)); len(got) != 0 {
			t.Errorf("Tag by 31 bytes of %d = %x", many, got)
		}
	}
}

func TestTagOfManyAtATime(t *testing.T) {
	key, b := someBytes(32), someBytes(700)
	want := tagOf(key, b)
	var all sync.WaitGroup
	for range 16 {
		all.Go(func() {
			for range 50 {
				if got := impl.Tag(key, b); !bytes.Equal(got, want) {
					t.Errorf("Tag = %x, want %x", got, want)
				}
			}
		})
	}
	all.Wait()
}

func TestTagLeavesItsArgumentsAlone(t *testing.T) {
	// Bytes 255, of which some do not count, with room behind them.
	backing := bytes.Repeat([]byte{255}, 300)
	for _, many := range []int{0, 1, 15, 16, 17, 31, 33, 200} {
		impl.Tag(backing[:32], backing[40:40+many])
		impl.Tag(backing[:32], backing[:many])
		impl.Tag(backing[:31], backing[:many])
	}
	if !bytes.Equal(backing, bytes.Repeat([]byte{255}, 300)) {
		t.Errorf("bytes turned into %x", backing)
	}
}

func TestTagAnswersAnewEachTime(t *testing.T) {
	for _, many := range []int{0, 16, 40} {
		key, b := someBytes(32), someBytes(many)
		first := impl.Tag(key, b)
		kept := bytes.Clone(first)
		clear(first[:cap(first)])
		if again := impl.Tag(key, b); !bytes.Equal(again, kept) {
			t.Errorf("Tag, asked again, = %x, want %x", again, kept)
		}
		if !bytes.Equal(key, someBytes(32)) || !bytes.Equal(b, someBytes(many)) {
			t.Errorf("Tag of %d bytes shares memory with what it was given", many)
		}
	}
}
