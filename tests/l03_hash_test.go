package tests

import (
	"bytes"
	"crypto/sha256"
	"encoding"
	"encoding/binary"
	"math"
	"math/rand"
	"slices"
	"strings"
	"testing"

	"loop.example/g00473/impl"
)

// Lengths on both sides of where what is put behind a text no longer has room in its last block.
var hashLengths = []int{0, 1, 3, 54, 55, 56, 57, 62, 63, 64, 65, 118, 119, 120, 121, 127, 128, 129, 183, 184, 191, 192, 3959, 3960, 3967, 3968, impl.MaxHash - 1, impl.MaxHash}

// someBytes are as many bytes, each time the same, in which no block comes again.
func someBytes(many int) []byte {
	b := make([]byte, many)
	rand.New(rand.NewSource(int64(many))).Read(b)
	return b
}

func TestHashPad(t *testing.T) {
	for _, c := range []struct{ many, want int }{
		{0, 64}, {1, 64}, {54, 64}, {55, 64}, {56, 128}, {63, 128}, {64, 128}, {118, 128}, {119, 128}, {120, 192}, {127, 192}, {128, 192}, {183, 192}, {184, 256}, {3959, 3968}, {3960, 4032}, {impl.MaxHash, 4032},
	} {
		if got := len(impl.HashPad(make([]byte, c.many))); got != c.want {
			t.Errorf("HashPad of %d bytes has %d, want %d", c.many, got, c.want)
		}
	}
	want := slices.Concat([]byte{'a', 'b', 'c', 128}, make([]byte, 59), []byte{24})
	if got := impl.HashPad([]byte("abc")); !bytes.Equal(got, want) {
		t.Errorf("HashPad(abc) = %v", got)
	}
	for _, none := range [][]byte{nil, {}} {
		if got := impl.HashPad(none); !bytes.Equal(got, append([]byte{128}, make([]byte, 63)...)) {
			t.Errorf("HashPad of nothing = %v", got)
		}
	}
}

func TestHashPadOfEachLength(t *testing.T) {
	all := someBytes(impl.MaxHash)
	for many := range impl.MaxHash + 1 {
		got := impl.HashPad(all[:many])
		want := append(bytes.Clone(all[:many]), 128)
		for len(want)%64 != 56 {
			want = append(want, 0)
		}
		want = binary.BigEndian.AppendUint64(want, uint64(8*many))
		if !bytes.Equal(got, want) {
			t.Fatalf("HashPad of %d bytes = %v, want %v", many, got, want)
		}
	}
}

// blockOf lets the library's hash go on from a state, in the form in which it is put away.
func blockOf(t *testing.T, state []int, block []byte) []int {
	t.Helper()
	away := []byte("sha\x03")
	for _, n := range state {
		away = binary.BigEndian.AppendUint32(away, uint32(wordOf(n)))
	}
	away = append(away, make([]byte, 64+8)...)
	h := sha256.New()
	if err := h.(encoding.BinaryUnmarshaler).UnmarshalBinary(away); err != nil {
		t.Fatal(err)
	}
	h.Write(block)
	away, err := h.(encoding.BinaryMarshaler).MarshalBinary()
	if err != nil {
		t.Fatal(err)
	}
	var list []int
	for i := range 8 {
		list = append(list, int(binary.BigEndian.Uint32(away[4+4*i:])))
	}
	return list
}

func TestHashBlock(t *testing.T) {
	// Both from the examples that were published with the hash: "abc", and the second block of 56 letters.
	padded := impl.HashPad([]byte("abc"))
	want := []int{0xba7816bf, 0x8f01cfea, 0x414140de, 0x5dae2223, 0xb00361a3, 0x96177a9c, 0xb410ff61, 0xf20015ad}
	if got := impl.HashBlock(impl.HashStart(), padded); !slices.Equal(got, want) {
		t.Errorf("HashBlock of abc = %x, want %x", got, want)
	}
	padded = impl.HashPad([]byte("abcdbcdecdefdefgefghfghighijhijkijkljklmklmnlmnomnopnopq"))
	middle := []int{0x85e655d6, 0x417a1795, 0x3363376a, 0x624cde5c, 0x76e09589, 0xcac5f811, 0xcc4b32c1, 0xf20e533a}
	if got := impl.HashBlock(impl.HashStart(), padded[:64]); !slices.Equal(got, middle) {
		t.Errorf("HashBlock of a first block = %x, want %x", got, middle)
	}
	want = []int{0x248d6a61, 0xd20638b8, 0xe5c02693, 0x0c3e6039, 0xa33ce459, 0x64ff2167, 0xf6ecedd4, 0x19db06c1}
	if got := impl.HashBlock(middle, padded[64:]); !slices.Equal(got, want) {
		t.Errorf("HashBlock of a second block = %x, want %x", got, want)
	}
}

func TestHashBlockOfManyStates(t *testing.T) {
	blocks := [][]byte{make([]byte, 64), bytes.Repeat([]byte{255}, 64), bytes.Repeat([]byte{128, 0, 0, 1}, 16), allBytes()[:64], allBytes()[192:]}
	for at := range 64 {
		one := make([]byte, 64)
		one[at] = 128
		blocks = append(blocks, one)
	}
	states := [][]int{make([]int, 8), slices.Repeat([]int{math.MinInt}, 8), slices.Repeat([]int{math.MaxInt}, 8), slices.Repeat([]int{-1}, 8), impl.HashStart()}
	for at := range len(wordNumbers) - 7 {
		states = append(states, wordNumbers[at:at+8])
	}
	for _, state := range states {
		for _, block := range blocks {
			if got, want := impl.HashBlock(state, block), blockOf(t, state, block); !slices.Equal(got, want) {
				t.Fatalf("HashBlock(%v, %v) = %v, want %v", state, block, got, want)
			}
		}
	}
}

func TestHashBlockTakesWordOfItsState(t *testing.T) {
	block := someBytes(64)
	for at := range 8 {
		want := impl.HashBlock(impl.HashStart(), block)
		for _, more := range []int{wordsInAll, -wordsInAll, 1 << 40, -1 << 40, math.MinInt} {
			state := impl.HashStart()
			state[at] += more
			if got := impl.HashBlock(state, block); !slices.Equal(got, want) {
				t.Errorf("HashBlock with %d more at %d = %v, want %v", more, at, got, want)
			}
		}
	}
}

func TestHashBlockOfOtherSizes(t *testing.T) {
	for many := range 130 {
		if got := impl.HashBlock(impl.HashStart(), make([]byte, many)); (len(got) != 0) != (many == 64) {
			t.Errorf("HashBlock of %d bytes = %v", many, got)
		}
	}
	for many := range 20 {
		if got := impl.HashBlock(make([]int, many), make([]byte, 64)); (len(got) != 0) != (many == 8) {
			t.Errorf("HashBlock of %d numbers = %v", many, got)
		}
	}
	if len(impl.HashBlock(nil, nil)) != 0 || len(impl.HashBlock(nil, make([]byte, 64))) != 0 || len(impl.HashBlock(impl.HashStart(), nil)) != 0 {
		t.Error("HashBlock of nothing is not nothing")
	}
}

func TestHashStart(t *testing.T) {
	want := []int{0x6a09e667, 0xbb67ae85, 0x3c6ef372, 0xa54ff53a, 0x510e527f, 0x9b05688c, 0x1f83d9ab, 0x5be0cd19}
	if got := impl.HashStart(); !slices.Equal(got, want) {
		t.Errorf("HashStart = %x, want %x", got, want)
	}
}

func TestHash(t *testing.T) {
	for s, want := range map[string]string{
		"":    "e3b0c44298fc1c149afbf4c8996fb92427ae41e4649b934ca495991b7852b855",
		"abc": "ba7816bf8f01cfea414140de5dae2223b00361a396177a9cb410ff61f20015ad",
		"abcdbcdecdefdefgefghfghighijhijkijkljklmklmnlmnomnopnopq":                                                         "248d6a61d20638b8e5c026930c3e6039a33ce45964ff2167f6ecedd419db06c1",
		"abcdefghbcdefghicdefghijdefghijkefghijklfghijklmghijklmnhijklmnoijklmnopjklmnopqklmnopqrlmnopqrsmnopqrstnopqrstu": "cf5b16a778af8380036ce59e7b0492370b249b11e8f07a51afac45037afee9d1",
	} {
		if got := impl.Hex(impl.Hash([]byte(s))); got != want {
			t.Errorf("Hash(%q) = %s, want %s", s, got, want)
		}
	}
}

func TestHashOfEachLength(t *testing.T) {
	all := someBytes(impl.MaxHash)
	for many := range impl.MaxHash + 1 {
		got, want := impl.Hash(all[:many]), sha256.Sum256(all[:many])
		if len(got) != 32 || !bytes.Equal(got, want[:]) {
			t.Fatalf("Hash of %d bytes = %x, want %x", many, got, want)
		}
	}
}

// Blocks that come again right behind themselves, or behind another, or are nothing but bytes 0.
func TestHashOfBlocksThatComeAgain(t *testing.T) {
	blocks := map[rune][]byte{'0': make([]byte, 64), 'f': bytes.Repeat([]byte{255}, 64), 'a': someBytes(64), 'e': append(make([]byte, 63), 1), 's': append([]byte{128}, make([]byte, 63)...)}
	for _, order := range []string{"0", "00", "000", "f", "ff", "a", "aa", "aaa", "a0", "0a", "0a0", "a0a", "aaf", "aff", "faa", "0e", "e0", "ee0", "00e0ee", "a00a", "afafaf", "s", "ss", "0s0s", strings.Repeat("a", 62), strings.Repeat("0", 62), strings.Repeat("f", 62)} {
		var b []byte
		for _, name := range order {
			b = append(b, blocks[name]...)
		}
		for _, behind := range []int{0, 1, 30} {
			b := append(b, make([]byte, behind)...)
			want := sha256.Sum256(b)
			if got := impl.Hash(b); !bytes.Equal(got, want[:]) {
				t.Errorf("Hash of the blocks %s and %d bytes = %x, want %x", order, behind, got, want)
			}
		}
	}
}

func TestHashIsItsBlocksOneBehindTheOther(t *testing.T) {
	all := someBytes(impl.MaxHash)
	for _, many := range hashLengths {
		state, rest := impl.HashStart(), impl.HashPad(all[:many])
		for len(rest) > 0 {
			state, rest = impl.HashBlock(state, rest[:64]), rest[64:]
		}
		if got, want := impl.Hash(all[:many]), impl.WordBytes(state, true); len(want) != 32 || !bytes.Equal(got, want) {
			t.Errorf("Hash of %d bytes = %x, its blocks have %x", many, got, want)
		}
	}
}

func TestHashOfTooManyBytes(t *testing.T) {
	for _, many := range []int{impl.MaxHash + 1, impl.MaxHash + 23, impl.MaxHash + 24, impl.MaxHash + 64, 2 * impl.MaxHash, 1 << 16, 1 << 20} {
		if got := impl.HashPad(make([]byte, many)); len(got) != 0 {
			t.Errorf("HashPad of %d bytes has %d", many, len(got))
		}
		if got := impl.Hash(make([]byte, many)); len(got) != 0 {
			t.Errorf("Hash of %d bytes = %x", many, got)
		}
	}
}

func TestHashLeavesItsArgumentsAlone(t *testing.T) {
	// Lists with spare room behind them, where an append would write.
	room, numbers := someBytes(300), slices.Repeat([]int{-1, 1 << 40}, 8)
	was, wasNumbers := bytes.Clone(room), slices.Clone(numbers)
	for _, many := range []int{0, 55, 56, 64, 128} {
		padded := impl.HashPad(room[:many])
		clear(padded[:cap(padded)])
		sum := impl.Hash(room[:many])
		clear(sum[:cap(sum)])
		state := impl.HashBlock(numbers[:8], room[many:many+64])
		clear(state[:cap(state)])
	}
	if !bytes.Equal(room, was) || !slices.Equal(numbers, wasNumbers) {
		t.Error("arguments are no longer as they were")
	}
}

func TestHashAnswersAnewEachTime(t *testing.T) {
	start, sum, padded := impl.HashStart(), impl.Hash([]byte("abc")), impl.HashPad([]byte("abc"))
	state := impl.HashBlock(start, padded)
	for range 3 {
		clear(impl.HashStart())
		clear(impl.Hash([]byte("abc")))
		clear(impl.HashPad([]byte("abc")))
		clear(impl.HashBlock(start, padded))
		// Another block in between: nothing of it is to be kept.
		impl.Hash(bytes.Repeat([]byte{1}, 128))
		if !slices.Equal(impl.HashStart(), start) || !bytes.Equal(impl.Hash([]byte("abc")), sum) || !bytes.Equal(impl.HashPad([]byte("abc")), padded) || !slices.Equal(impl.HashBlock(start, padded), state) {
			t.Error("an answer is another after the last one was changed")
		}
	}
}
