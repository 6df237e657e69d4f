package tests

import (
	"bytes"
	"encoding/binary"
	"encoding/hex"
	"math"
	"slices"
	"strings"
	"testing"

	"loop.example/g00473/impl"
)

// Texts that are neither Digits nor Hex, but begin or end like them, or would be such if a rune were cut to a byte.
var oddTexts = []string{
	"İ0", "0İ", "İİ", "š1", "１２", "٣٣", "é", "éé", "\xff", "\xff0", "0\xff", "\xc4\xb0", "\x00", "0\x00", "\x000",
	" 1", "1 ", "1\n", "\t1", "+1", "-1", "-0", "--", "1-", "1_0_", "0x10", "0X", "1.0.", "1,0,", "/0", "0/", ":0", "0:", "`0", "0`", "g0", "0g", "@0", "G0", "\ufffd0",
}

func TestDigits(t *testing.T) {
	for n, want := range map[int]string{
		0: "0", 7: "7", -7: "-7", 10: "10", -10: "-10", 999999: "999999", 1000000: "1000000",
		math.MaxInt: "9223372036854775807", math.MinInt: "-9223372036854775808",
	} {
		if got := impl.Digits(n); got != want {
			t.Errorf("Digits(%d) = %q, want %q", n, got, want)
		}
	}
}

func TestNumberReadsWhatDigitsTells(t *testing.T) {
	for n := 0; n <= 999999; n++ {
		if got, ok := impl.Number(impl.Digits(n)); got != n || !ok {
			t.Fatalf("Number(Digits(%d)) = %d, %v", n, got, ok)
		}
	}
}

func TestNumberRefusesOtherTexts(t *testing.T) {
	bad := []string{
		"", "00", "01", "007", "000000", "0999999", "-0", "-1", "-7", "-999999", "+5", "1000000", "9999999",
		"a", "1a", "a1", "12 ", "1 2", "1_000", "1e", "1e3", "0x1f", "9223372036854775808",
		"18446744073709551616", "18446744073709551617", "18446744073709551736", "٣", "１", "İ", "1İ",
		strings.Repeat("9", 5000), strings.Repeat("0", 5000), strings.Repeat("0", 5000) + "1",
		impl.Digits(math.MaxInt), impl.Digits(math.MinInt),
	}
	for _, s := range append(bad, oddTexts...) {
		if n, ok := impl.Number(s); n != 0 || ok {
			t.Errorf("Number(%q) = %d, %v, want 0, false", s, n, ok)
		}
	}
}

func TestNumberOfEachByte(t *testing.T) {
	for x := range 256 {
		n, ok := impl.Number(string([]byte{byte(x)}))
		if digit := x >= '0' && x <= '9'; ok != digit || digit && n != x-'0' || !digit && n != 0 {
			t.Errorf("Number of the byte %d = %d, %v", x, n, ok)
		}
	}
}

func allBytes() []byte {
	b := make([]byte, 256)
	for i := range b {
		b[i] = byte(i)
	}
	return b
}

func TestHex(t *testing.T) {
	all := allBytes()
	if got, want := impl.Hex(all), hex.EncodeToString(all); got != want {
		t.Errorf("Hex of all bytes = %q, want %q", got, want)
	}
	if got := impl.Hex([]byte{0, 255, 26, 9, 160}); got != "00ff1a09a0" {
		t.Errorf("Hex = %q", got)
	}
	if impl.Hex(nil) != "" || impl.Hex([]byte{}) != "" {
		t.Error("Hex of nothing is not the empty text")
	}
}

func TestUnhexReadsWhatHexTells(t *testing.T) {
	all := allBytes()
	for from := range 256 {
		for _, to := range []int{from, from + 1, 256} {
			b := all[from:to]
			if got, ok := impl.Unhex(impl.Hex(b)); !ok || !bytes.Equal(got, b) {
				t.Fatalf("Unhex(Hex(%v)) = %v, %v", b, got, ok)
			}
		}
	}
	if got, ok := impl.Unhex(""); len(got) != 0 || !ok {
		t.Errorf("Unhex of the empty text = %v, %v", got, ok)
	}
}

func TestUnhexOfEachPairOfBytes(t *testing.T) {
	for x := range 65536 {
		s := string([]byte{byte(x >> 8), byte(x)})
		want, err := hex.DecodeString(s)
		told := err == nil && s == strings.ToLower(s)
		got, ok := impl.Unhex(s)
		if ok != told || told && !bytes.Equal(got, want) || !told && len(got) != 0 {
			t.Fatalf("Unhex(%q) = %v, %v", s, got, ok)
		}
	}
}

func TestUnhexRefusesOtherTexts(t *testing.T) {
	bad := []string{"0", "f", "000", "00f", "FF", "Ff", "fF", "0A", "A0", "00FF1A", "00ffg0", "zz", "00 0", "00 00", "0x00", "00ff1", "00ff1A", "00ff 1a", "İ", "ａａ", "ffé", "éff", "00\xff\xff"}
	for _, s := range append(bad, oddTexts...) {
		if b, ok := impl.Unhex(s); len(b) != 0 || ok {
			t.Errorf("Unhex(%q) = %v, %v, want nothing and false", s, b, ok)
		}
	}
}

func TestSame(t *testing.T) {
	for _, c := range []struct {
		a, b []byte
		want bool
	}{
		{nil, nil, true}, {nil, []byte{}, true}, {[]byte{}, nil, true}, {[]byte{0}, nil, false}, {nil, []byte{0}, false},
		{[]byte{1}, []byte{1}, true}, {[]byte{1}, []byte{2}, false}, {[]byte{1, 2}, []byte{2, 1}, false},
		{[]byte{1, 2}, []byte{1, 2, 0}, false}, {[]byte{1, 2, 3}, []byte{1, 2}, false}, {[]byte{1, 2, 3}, []byte{1, 2, 4}, false},
		{[]byte{0, 2, 3}, []byte{1, 2, 3}, false}, {allBytes(), allBytes(), true}, {make([]byte, 2, 9), make([]byte, 2), true},
	} {
		if got := impl.Same(c.a, c.b); got != c.want {
			t.Errorf("Same(%v, %v) = %v", c.a, c.b, got)
		}
	}
}

func TestXor(t *testing.T) {
	for _, c := range []struct{ a, b, want []byte }{
		{nil, nil, nil}, {nil, []byte{1}, nil}, {[]byte{1}, nil, nil},
		{[]byte{1, 2, 3}, []byte{3, 2}, []byte{2, 0}}, {[]byte{3, 2}, []byte{1, 2, 3}, []byte{2, 0}},
		{[]byte{255, 240, 170}, []byte{255, 15, 85}, []byte{0, 255, 255}}, {[]byte{12}, []byte{10}, []byte{6}},
	} {
		if got := impl.Xor(c.a, c.b); !bytes.Equal(got, c.want) {
			t.Errorf("Xor(%v, %v) = %v, want %v", c.a, c.b, got, c.want)
		}
	}
	all, key := allBytes(), bytes.Repeat([]byte{0x5a}, 300)
	if got := impl.Xor(impl.Xor(all, key), key); !bytes.Equal(got, all) {
		t.Error("Xor twice is not what it was")
	}
}

func TestLittleAndGreat(t *testing.T) {
	numbers := []int{0, 1, 127, 128, 255, 256, 258, 65535, 65536, 1 << 31, 1<<32 - 1, 1 << 32, 0x0102030405060708, 1<<56 + 3, math.MaxInt - 1, math.MaxInt}
	for _, n := range numbers {
		whole := binary.LittleEndian.AppendUint64(nil, uint64(n))
		for many := 1; many <= 8; many++ {
			want := bytes.Clone(whole[:many])
			if got := impl.Little(n, many); !bytes.Equal(got, want) {
				t.Errorf("Little(%d, %d) = %v, want %v", n, many, got, want)
			}
			slices.Reverse(want)
			if got := impl.Great(n, many); !bytes.Equal(got, want) {
				t.Errorf("Great(%d, %d) = %v, want %v", n, many, got, want)
			}
		}
	}
}

func TestLittleAndGreatOfNothing(t *testing.T) {
	for _, c := range [][2]int{
		{-1, 1}, {-1, 2}, {-1, 8}, {-258, 3}, {math.MinInt, 8}, {0, 0}, {1, 0}, {1, -1}, {1, 9}, {0, 9}, {-1, 0}, {-1, 9},
		{1, math.MaxInt}, {1, math.MinInt}, {math.MaxInt, 9}, {math.MaxInt, 0},
	} {
		if got := impl.Little(c[0], c[1]); len(got) != 0 {
			t.Errorf("Little(%d, %d) = %v, want nothing", c[0], c[1], got)
		}
		if got := impl.Great(c[0], c[1]); len(got) != 0 {
			t.Errorf("Great(%d, %d) = %v, want nothing", c[0], c[1], got)
		}
	}
}

func TestSplit(t *testing.T) {
	for _, c := range []struct {
		s    string
		by   byte
		want []string
	}{
		{"", ' ', []string{""}}, {"", 0, []string{""}}, {" ", ' ', []string{"", ""}}, {"   ", ' ', []string{"", "", "", ""}},
		{"a", ' ', []string{"a"}}, {"a b", ' ', []string{"a", "b"}}, {" a  b ", ' ', []string{"", "a", "", "b", ""}},
		{"a\nb\n", '\n', []string{"a", "b", ""}}, {"a\x00b", 0, []string{"a", "b"}}, {"a\tb", ' ', []string{"a\tb"}}, {"aAa", 'A', []string{"a", "a"}},
		{"é", 0xc3, []string{"", "\xa9"}}, {"é", 0xa9, []string{"\xc3", ""}}, {"aéb", 0xe9, []string{"aéb"}}, {"\ufffd", 0xff, []string{"\ufffd"}},
		{"x\xffy\xff", 0xff, []string{"x", "y", ""}}, {"\x80\x81", 0x80, []string{"", "\x81"}}, {"İ.ı.", '.', []string{"İ", "ı", ""}},
	} {
		if got := impl.Split(c.s, c.by); !slices.Equal(got, c.want) {
			t.Errorf("Split(%q, %d) = %q, want %q", c.s, c.by, got, c.want)
		}
	}
}

func TestSplitByEachByte(t *testing.T) {
	text := string(allBytes()) + string(allBytes())
	for x := range 256 {
		by := string([]byte{byte(x)})
		parts := impl.Split(text, byte(x))
		if len(parts) != 3 || strings.Join(parts, by) != text {
			t.Errorf("Split by the byte %d: %d parts that make %q", x, len(parts), strings.Join(parts, by))
		}
	}
}

func TestBytesLeaveTheirArgumentsAlone(t *testing.T) {
	// Lists with spare room behind them, where an append would write.
	room, other := []byte{1, 2, 3, 4, 5, 6, 7, 8}, []byte{9, 8, 7, 6, 5, 4, 3, 2}
	was, wasOther := bytes.Clone(room), bytes.Clone(other)
	a, b := room[:3], other[:4]
	impl.Hex(a)
	impl.Same(a, b)
	for _, answer := range [][]byte{impl.Xor(a, b), impl.Xor(b, a), impl.Xor(a, a), impl.Xor(a, make([]byte, 3))} {
		clear(answer[:cap(answer)])
	}
	if !bytes.Equal(room, was) || !bytes.Equal(other, wasOther) {
		t.Errorf("arguments became %v and %v", room, other)
	}
}

func TestBytesAnswerAnewEachTime(t *testing.T) {
	for name, ask := range map[string]func() []byte{
		"Unhex":  func() []byte { b, _ := impl.Unhex("0102"); return b },
		"Xor":    func() []byte { return impl.Xor([]byte{1, 2}, []byte{0, 0}) },
		"Little": func() []byte { return impl.Little(513, 2) },
		"Great":  func() []byte { return impl.Great(258, 2) },
	} {
		clear(ask())
		if got := ask(); !bytes.Equal(got, []byte{1, 2}) {
			t.Errorf("%s answers %v after its last answer was changed", name, got)
		}
	}
	impl.Split("a b", ' ')[0] = "x"
	if got := impl.Split("a b", ' '); got[0] != "a" {
		t.Errorf("Split answers %q after its last answer was changed", got)
	}
}
