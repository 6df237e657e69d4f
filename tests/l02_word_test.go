package tests

import (
	"bytes"
	"encoding/binary"
	"math"
	"math/big"
	"slices"
	"testing"

	"loop.example/g00473/impl"
)

const wordsInAll = 1 << 32

// Numbers on both sides of each border of a word, below 0, and of more than 32 bits.
var wordNumbers = []int{
	0, 1, 2, 5, 127, 128, 255, 256, 65535, 65536, 0x01020304, 0x80000001, 0xdeadbeef,
	1<<31 - 1, 1 << 31, 1<<31 + 1, 1<<32 - 2, 1<<32 - 1, 1 << 32, 1<<32 + 1, 3<<32 - 1, 3 << 32, 3<<32 + 7, 0x123456789abcdef,
	1<<53 + 1, 1<<62 + 9, math.MaxInt - 1, math.MaxInt,
	-1, -2, -5, -128, -256, -65536, -1 << 31, -1<<31 - 1, -1<<31 + 1, -1<<32 + 1, -1 << 32, -1<<32 - 1, -3 << 32, -3<<32 - 7,
	-1 << 62, math.MinInt + 1, math.MinInt,
}

// wordOf asks whole numbers without a border, which have no wrap-round of their own.
func wordOf(n int) int {
	return int(new(big.Int).Mod(big.NewInt(int64(n)), big.NewInt(wordsInAll)).Int64())
}

func TestWord(t *testing.T) {
	for n, want := range map[int]int{
		0: 0, 1: 1, -1: 4294967295, -2: 4294967294, 4294967295: 4294967295, 4294967296: 0, 4294967297: 1, -4294967295: 1, -4294967296: 0, -4294967297: 4294967295,
		math.MaxInt: 4294967295, math.MinInt: 0, math.MinInt + 1: 1, 1 << 31: 1 << 31, -1 << 31: 1 << 31, -1<<31 - 1: 1<<31 - 1,
	} {
		if got := impl.Word(n); got != want {
			t.Errorf("Word(%d) = %d, want %d", n, got, want)
		}
	}
	for _, n := range wordNumbers {
		if got, want := impl.Word(n), wordOf(n); got != want {
			t.Errorf("Word(%d) = %d, want %d", n, got, want)
		}
		if got := impl.Word(impl.Word(n)); got != impl.Word(n) {
			t.Errorf("Word of Word(%d) is another: %d", n, got)
		}
	}
}

// turnOf goes a step at a time: what goes out at the top comes in at the bottom.
func turnOf(n int, k int) int {
	w := wordOf(n)
	steps := int(new(big.Int).Mod(big.NewInt(int64(k)), big.NewInt(32)).Int64())
	for range steps {
		w = w*2%wordsInAll + w/(wordsInAll/2)
	}
	return w
}

func TestTurn(t *testing.T) {
	for _, c := range [][3]int{
		{0, 0, 0}, {0, 5, 0}, {1, 0, 1}, {1, 1, 2}, {1, 31, 1 << 31}, {1, 32, 1}, {1, 33, 2}, {1, 64, 1}, {1, -1, 1 << 31}, {1, -31, 2}, {1, -32, 1}, {1, -33, 1 << 31},
		{2147483649, 1, 3}, {5, 32, 5}, {5, -1, 2147483650}, {-1, 7, 4294967295}, {-2, 1, 4294967293}, {-2, 0, 4294967294}, {4294967296, 3, 0}, {4294967297, 3, 8}, {-4294967295, 3, 8},
		{0x12345678, 8, 0x34567812}, {0x12345678, -8, 0x78123456}, {0x12345678, 16, 0x56781234},
		{1, math.MaxInt, 1 << 31}, {1, math.MinInt, 1}, {1, math.MinInt + 1, 2},
	} {
		if got := impl.Turn(c[0], c[1]); got != c[2] {
			t.Errorf("Turn(%d, %d) = %d, want %d", c[0], c[1], got, c[2])
		}
	}
}

func TestTurnOfManyByMany(t *testing.T) {
	turns := []int{1<<32 - 1, 1 << 32, 1<<32 + 1, -1<<32 - 1, -1 << 32, 1 << 62, math.MaxInt - 31, math.MaxInt - 1, math.MaxInt, math.MinInt, math.MinInt + 1, math.MinInt + 31}
	for k := -130; k <= 130; k++ {
		turns = append(turns, k)
	}
	for _, n := range wordNumbers {
		for _, k := range turns {
			got := impl.Turn(n, k)
			if want := turnOf(n, k); got != want {
				t.Fatalf("Turn(%d, %d) = %d, want %d", n, k, got, want)
			}
			if k != math.MinInt && impl.Turn(got, -k) != impl.Word(n) {
				t.Fatalf("Turn(%d, %d) turned back is %d", n, k, impl.Turn(got, -k))
			}
		}
	}
}

func TestWords(t *testing.T) {
	for _, c := range []struct {
		b     []byte
		great bool
		want  []int
	}{
		{nil, true, nil}, {nil, false, nil}, {[]byte{}, true, nil}, {[]byte{1}, true, nil}, {[]byte{1, 2, 3}, true, nil}, {[]byte{1, 2, 3}, false, nil},
		{[]byte{1, 2, 3, 4}, true, []int{16909060}}, {[]byte{1, 2, 3, 4}, false, []int{67305985}},
		{[]byte{1, 2, 3, 4, 5}, true, []int{16909060}}, {[]byte{1, 2, 3, 4, 5, 6, 7}, false, []int{67305985}},
		{[]byte{0, 0, 0, 1, 255, 255, 255, 255}, true, []int{1, 4294967295}}, {[]byte{0, 0, 0, 1, 255, 255, 255, 254}, false, []int{1 << 24, 0xfeffffff}},
		{[]byte{128, 0, 0, 0}, true, []int{1 << 31}}, {[]byte{0, 0, 0, 128}, false, []int{1 << 31}},
	} {
		if got := impl.Words(c.b, c.great); !slices.Equal(got, c.want) {
			t.Errorf("Words(%v, %v) = %v, want %v", c.b, c.great, got, c.want)
		}
	}
}

func TestWordsOfEachLength(t *testing.T) {
	all := allBytes()
	for long := range len(all) + 1 {
		var great, little []int
		for at := 0; at+4 <= long; at += 4 {
			great = append(great, int(binary.BigEndian.Uint32(all[at:])))
			little = append(little, int(binary.LittleEndian.Uint32(all[at:])))
		}
		if got := impl.Words(all[:long], true); !slices.Equal(got, great) {
			t.Errorf("Words of %d bytes, great = %v, want %v", long, got, great)
		}
		if got := impl.Words(all[:long], false); !slices.Equal(got, little) {
			t.Errorf("Words of %d bytes, little = %v, want %v", long, got, little)
		}
	}
}

func TestWordBytes(t *testing.T) {
	for _, n := range wordNumbers {
		list := []int{n, 7, n}
		great := binary.BigEndian.AppendUint32(nil, uint32(wordOf(n)))
		little := binary.LittleEndian.AppendUint32(nil, uint32(wordOf(n)))
		if got, want := impl.WordBytes(list, true), slices.Concat(great, []byte{0, 0, 0, 7}, great); !bytes.Equal(got, want) {
			t.Errorf("WordBytes(%v, great) = %v, want %v", list, got, want)
		}
		if got, want := impl.WordBytes(list, false), slices.Concat(little, []byte{7, 0, 0, 0}, little); !bytes.Equal(got, want) {
			t.Errorf("WordBytes(%v, little) = %v, want %v", list, got, want)
		}
	}
	for _, great := range []bool{true, false} {
		if len(impl.WordBytes(nil, great)) != 0 || len(impl.WordBytes([]int{}, great)) != 0 {
			t.Error("WordBytes of nothing is not nothing")
		}
	}
}

func TestWordsAreReadFromTheirBytes(t *testing.T) {
	all := allBytes()
	var words []int
	for _, n := range wordNumbers {
		words = append(words, wordOf(n))
	}
	for _, great := range []bool{true, false} {
		if got := impl.Words(impl.WordBytes(wordNumbers, great), great); !slices.Equal(got, words) {
			t.Errorf("Words of WordBytes (great: %v) = %v, want %v", great, got, words)
		}
		if got := impl.WordBytes(impl.Words(all, great), great); !bytes.Equal(got, all) {
			t.Errorf("WordBytes of Words (great: %v) = %v", great, got)
		}
		for left := 1; left < 4; left++ {
			if got := impl.WordBytes(impl.Words(all[:8+left], great), great); !bytes.Equal(got, all[:8]) {
				t.Errorf("WordBytes of Words of %d bytes (great: %v) = %v", 8+left, great, got)
			}
		}
	}
}

func TestWordsLeaveTheirArgumentsAlone(t *testing.T) {
	// Lists with spare room behind them, where an append would write.
	room, numbers := []byte{1, 2, 3, 4, 5, 6, 7, 8, 9, 10}, []int{-1, 1 << 40, 3, 4, 5, 6}
	was, wasNumbers := bytes.Clone(room), slices.Clone(numbers)
	for _, great := range []bool{true, false} {
		words := impl.Words(room[:6], great)
		clear(words[:cap(words)])
		b := impl.WordBytes(numbers[:3], great)
		clear(b[:cap(b)])
	}
	if !bytes.Equal(room, was) || !slices.Equal(numbers, wasNumbers) {
		t.Errorf("arguments became %v and %v", room, numbers)
	}
}

func TestWordsAnswerAnewEachTime(t *testing.T) {
	for _, great := range []bool{true, false} {
		clear(impl.Words([]byte{9, 9, 9, 9}, great))
		if got := impl.Words([]byte{9, 9, 9, 9}, great); !slices.Equal(got, []int{0x09090909}) {
			t.Errorf("Words answers %v after its last answer was changed", got)
		}
		clear(impl.WordBytes([]int{0x09090909}, great))
		if got := impl.WordBytes([]int{0x09090909}, great); !bytes.Equal(got, []byte{9, 9, 9, 9}) {
			t.Errorf("WordBytes answers %v after its last answer was changed", got)
		}
	}
}
