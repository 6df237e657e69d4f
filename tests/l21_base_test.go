package tests

import (
	"bytes"
	"encoding/base64"
	"fmt"
	"math"
	"math/rand"
	"slices"
	"strconv"
	"strings"
	"sync"
	"testing"

	"loop.example/g00473/impl"
)

const addressSigns = "ABCDEFGHIJKLMNOPQRSTUVWXYZabcdefghijklmnopqrstuvwxyz0123456789-_"

// librarySixes asks for bits 0 at the end, too; ends of lines it passes over.
var librarySixes = base64.RawURLEncoding.Strict()

// sixesOf tells the signs bit by bit.
func sixesOf(b []byte) string {
	var bits, signs strings.Builder
	for _, x := range b {
		fmt.Fprintf(&bits, "%08b", x)
	}
	all := bits.String()
	for len(all)%6 != 0 {
		all += "0"
	}
	for ; all != ""; all = all[6:] {
		six, _ := strconv.ParseUint(all[:6], 2, 8)
		signs.WriteByte(addressSigns[six])
	}
	return signs.String()
}

// unsixesOf tells the bytes bit by bit: fewer than six bits are left over, and all of them are 0.
func unsixesOf(s string) ([]byte, bool) {
	var bits strings.Builder
	for _, sign := range []byte(s) {
		six := strings.IndexByte(addressSigns, sign)
		if six < 0 {
			return nil, false
		}
		fmt.Fprintf(&bits, "%06b", six)
	}
	var b []byte
	all := bits.String()
	for ; len(all) >= 8; all = all[8:] {
		x, _ := strconv.ParseUint(all[:8], 2, 8)
		b = append(b, byte(x))
	}
	if len(all) >= 6 || strings.Contains(all, "1") {
		return nil, false
	}
	return b, true
}

// checkSixes holds the signs of b, and what is read from them, against b.
func checkSixes(t *testing.T, b []byte) {
	t.Helper()
	want := sixesOf(b)
	if got := impl.Sixes(b); got != want || got != librarySixes.EncodeToString(b) {
		t.Fatalf("Sixes(%x) = %q, want %q", b, got, want)
	}
	if got, ok := impl.Unsixes(want); !ok || !bytes.Equal(got, b) {
		t.Fatalf("Unsixes(%q) = %x, %t, want %x", want, got, ok, b)
	}
	if len(b) <= impl.MaxHash && impl.SixesLen(len(b)) != len(want) {
		t.Fatalf("SixesLen(%d) = %d, want %d", len(b), impl.SixesLen(len(b)), len(want))
	}
}

// checkUnsixes holds what is read from s against what is told bit by bit, and tells whether s was read.
func checkUnsixes(t *testing.T, s string) bool {
	t.Helper()
	want, right := unsixesOf(s)
	got, ok := impl.Unsixes(s)
	if ok != right || !bytes.Equal(got, want) {
		t.Fatalf("Unsixes(%q) = %x, %t, want %x, %t", s, got, ok, want, right)
	}
	if ok && impl.Sixes(got) != s {
		t.Fatalf("of %q are read %x, whose signs are %q", s, got, impl.Sixes(got))
	}
	return ok
}

func checkNoSixes(t *testing.T, s string) {
	t.Helper()
	if b, ok := impl.Unsixes(s); ok || len(b) != 0 {
		t.Fatalf("Unsixes(%q) = %x, %t, want nothing and false", s, b, ok)
	}
}

// sixesSizes stand at the ends of groups, and around them.
var sixesSizes = []int{0, 1, 2, 3, 4, 5, 6, 7, 8, 9, 10, 11, 12, 13, 14, 29, 30, 31, 32, 33, 47, 48, 49, 95, 96, 97, 255, 256, 257, 383, 384, 385}

// The examples that were published with the signs (RFC 4648, 10), and some whose signs are the last two.
func TestSixesOfKnownBytes(t *testing.T) {
	for s, want := range map[string]string{
		"": "", "f": "Zg", "fo": "Zm8", "foo": "Zm9v", "foob": "Zm9vYg", "fooba": "Zm9vYmE", "foobar": "Zm9vYmFy",
		"\x00": "AA", "\x00\x00": "AAA", "\x00\x00\x00": "AAAA", "\x01": "AQ", "\x00\x01": "AAE", "\x00\x00\x01": "AAAB",
		"\xff": "_w", "\xff\xff": "__8", "\xff\xff\xff": "____", "\xfb": "-w", "\xfb\xef\xbe": "----", "\xff\xef": "_-8", "\xfb\xf0": "-_A",
		"\x14\xfb\x9c\x03\xd9\x7e": "FPucA9l-", "\x14\xfb\x9c\x03\xd9": "FPucA9k", "\x14\xfb\x9c\x03": "FPucAw", "\n": "Cg", " ": "IA", "=": "PQ",
	} {
		checkSixes(t, []byte(s))
		if got := impl.Sixes([]byte(s)); got != want {
			t.Errorf("Sixes(%q) = %q, want %q", s, got, want)
		}
		if b, ok := impl.Unsixes(want); !ok || string(b) != s {
			t.Errorf("Unsixes(%q) = %q, %t, want %q", want, b, ok, s)
		}
	}
}

func TestSixesOfNothing(t *testing.T) {
	for name, b := range map[string][]byte{"nil": nil, "an empty list": {}, "room alone": someBytes(9)[:0]} {
		if got := impl.Sixes(b); got != "" {
			t.Errorf("Sixes of %s = %q", name, got)
		}
	}
	if b, ok := impl.Unsixes(""); !ok || len(b) != 0 {
		t.Errorf("Unsixes of the empty text = %x, %t, want nothing and true", b, ok)
	}
}

func TestSixesOfEachSize(t *testing.T) {
	from := rand.New(rand.NewSource(21))
	for many := range 420 {
		for range 12 {
			b := make([]byte, many)
			from.Read(b)
			checkSixes(t, b)
		}
		for _, x := range []byte{0, 1, 127, 128, 254, 255} {
			checkSixes(t, bytes.Repeat([]byte{x}, many))
		}
	}
	for _, many := range []int{impl.MaxHash - 1, impl.MaxHash, impl.MaxHash + 1, impl.MaxHash + 2, 10001} {
		checkSixes(t, someBytes(many))
	}
}

// Each byte in each place of bytes of which all others are alike.
func TestSixesOfEachByte(t *testing.T) {
	checkSixes(t, allBytes())
	for many := 1; many <= 7; many++ {
		for place := range many {
			for x := range 256 {
				for _, other := range []byte{0, 255, 0x5a} {
					b := bytes.Repeat([]byte{other}, many)
					b[place] = byte(x)
					checkSixes(t, b)
				}
			}
		}
	}
}

func TestSixesOfAllPairsOfBytes(t *testing.T) {
	seen := map[string]bool{}
	for x := range 65536 {
		b := []byte{byte(x >> 8), byte(x)}
		s := impl.Sixes(b)
		if got, ok := impl.Unsixes(s); !ok || !bytes.Equal(got, b) || len(s) != 3 || seen[s] {
			t.Fatalf("of %x the signs are %q, of which %x, %t is read", b, s, got, ok)
		}
		seen[s] = true
	}
}

// All texts of two signs, and all of three whose first one is one of some: of two, each 16th is read, of three, each 4th.
func TestUnsixesOfAllShortTexts(t *testing.T) {
	count := map[int]int{}
	for _, one := range addressSigns {
		checkNoSixes(t, string(one))
		for _, two := range addressSigns {
			pair := string([]rune{one, two})
			if checkUnsixes(t, pair) {
				count[2]++
			}
			if !strings.ContainsRune("AZaz09-_", one) {
				continue
			}
			for _, three := range addressSigns {
				if checkUnsixes(t, pair+string(three)) {
					count[3]++
				}
			}
		}
	}
	if count[2] != 256 || count[3] != 8*64*16 {
		t.Errorf("of texts of two signs %d are read, want 256, and of three %d, want %d", count[2], count[3], 8*64*16)
	}
}

// Each of the signs in each place of a text; in the last places some are not read, as bits are left over.
func TestUnsixesOfEachSign(t *testing.T) {
	count := map[string]int{}
	for _, many := range []int{1, 2, 3, 4, 5, 6, 7, 8, 9, 10, 31, 32, 33} {
		for _, s := range []string{sixesOf(someBytes(many)), sixesOf(make([]byte, many)), sixesOf(bytes.Repeat([]byte{255}, many))} {
			for place := range len(s) {
				for _, sign := range addressSigns {
					ok := checkUnsixes(t, s[:place]+string(sign)+s[place+1:])
					if place < len(s)-1 && !ok {
						t.Fatalf("%q is not read with %c in place %d", s, sign, place)
					}
					count[fmt.Sprint(ok)]++
				}
			}
		}
	}
	checkOften(t, count, 1000, "true", "false")
}

// Each byte in the place of a sign, and ahead of it; of those that are no sign nothing is read.
func TestUnsixesOfEachByteInThePlaceOfASign(t *testing.T) {
	for _, many := range []int{1, 2, 3, 4, 5, 6, 7, 30, 31} {
		s := sixesOf(someBytes(many))
		for place := range len(s) + 1 {
			for x := range 256 {
				other := string([]byte{byte(x)})
				checkUnsixes(t, s[:place]+other+s[place:])
				if place == len(s) {
					continue
				}
				put := s[:place] + other + s[place+1:]
				checkUnsixes(t, put)
				if !strings.Contains(addressSigns, other) {
					checkNoSixes(t, put)
				}
			}
		}
	}
	for x := range 256 {
		other := string([]byte{byte(x)})
		checkNoSixes(t, other)
		checkUnsixes(t, other+other)
		checkUnsixes(t, strings.Repeat(other, 3))
		checkUnsixes(t, strings.Repeat(other, 4))
	}
}

// Runes beyond one byte, among them all whose lowest byte is a sign: none is one, wherever it stands.
func TestUnsixesOfEachRune(t *testing.T) {
	for r := rune(128); r <= 0x10ffff; r++ {
		if r > 0x2fff && r%97 != 0 && r != 0xfeff && r != 0xfffd && r != 0x10ffff {
			continue
		}
		sign := string(r)
		for _, s := range []string{sign, "Z" + sign, sign + "g", "Zm" + sign, "Zm9" + sign, "Zm9v" + sign, "Z" + sign + "9v", sign + "Zm9v", sign + sign + sign + sign} {
			checkNoSixes(t, s)
		}
	}
}

func TestUnsixesOfTornRunes(t *testing.T) {
	for _, torn := range []string{"\xff", "\xc3", "\xa9", "\x80", "\xbf", "\xc0\x80", "\xc1\x81", "\xe2\x82", "\xed\xa0\x80", "\xf0\x9f", "\xf4\x90\x80\x80", "\xfe\xff", "\ufffd"} {
		for _, s := range []string{"", "Z", "Zg", "Zm8", "Zm9v", "Zm9vYg"} {
			for place := range len(s) + 1 {
				checkNoSixes(t, s[:place]+torn+s[place:])
				checkNoSixes(t, s[:place]+torn+torn+s[place:])
			}
		}
	}
}

// Each of the bits left over, and each mix of them: with one that is not 0, nothing is read, whatever stands ahead.
func TestUnsixesOfBitsLeftOver(t *testing.T) {
	for _, many := range sixesSizes {
		over := map[int]int{0: 0, 1: 4, 2: 2}[many%3]
		for _, b := range [][]byte{someBytes(many), make([]byte, many), bytes.Repeat([]byte{255}, many)} {
			s := sixesOf(b)
			for bits := 1; bits < 1<<over; bits++ {
				last := strings.IndexByte(addressSigns, s[len(s)-1])
				if last&(1<<over-1) != 0 {
					t.Fatalf("the last sign of %q tells more than its bytes", s)
				}
				checkNoSixes(t, s[:len(s)-1]+addressSigns[last|bits:][:1])
			}
		}
	}
}

func TestUnsixesOfFilling(t *testing.T) {
	for _, many := range sixesSizes {
		b := someBytes(many)
		s := sixesOf(b)
		if filled := base64.URLEncoding.EncodeToString(b); filled != s {
			checkNoSixes(t, filled)
			checkNoSixes(t, filled[:len(s)+1])
		}
		for _, filling := range []string{"=", "==", "===", "====", "*", ".", "%3D", "\x00", "\n", "\r\n", " "} {
			checkNoSixes(t, s+filling)
			checkNoSixes(t, filling+s)
			for place := range min(len(s), 9) {
				checkNoSixes(t, s[:place]+filling+s[place:])
			}
		}
	}
	for _, s := range []string{"=", "==", "===", "====", "=Zg", "Z=g=", "Z===", "Zm9v====", "Zm9vYg==", "Zm9vYmE=", "Zg==Zg==", "Zg=", "Zm8=", "Zm8\n", "\nZm8", "Zm9\nv"} {
		checkNoSixes(t, s)
	}
}

// The signs of the other alphabet of base 64 (RFC 4648, chapter 4), where they are other ones.
func TestUnsixesOfOtherSigns(t *testing.T) {
	from, count := rand.New(rand.NewSource(2121)), map[string]int{}
	for range 2000 {
		b := make([]byte, from.Intn(40))
		from.Read(b)
		s := base64.RawStdEncoding.EncodeToString(b)
		if strings.ContainsAny(s, "+/") {
			checkNoSixes(t, s)
			count["other"]++
		} else if checkUnsixes(t, s) {
			count["alike"]++
		}
	}
	checkOften(t, count, 300, "other", "alike")
	for _, s := range []string{"Zm+v", "Zm/v", "+w", "/w", "++++", "////", "+-+-", "Zm9v+", "Zm9v/w", "-/A", "+_A", "Zm9,", "Zm9.", "Zm9~", "Zm9:", "Zm9@", "Zm9[", "Zm9`", "Zm9{", "Zm9^", "Zm9!"} {
		checkNoSixes(t, s)
	}
}

// One sign more, whichever it is, and one less, at either end.
func TestUnsixesOfOneSignTooMany(t *testing.T) {
	for many := range 70 {
		for _, s := range []string{sixesOf(someBytes(many)), sixesOf(make([]byte, many)), sixesOf(bytes.Repeat([]byte{255}, many))} {
			for _, sign := range addressSigns {
				more, ahead := s+string(sign), string(sign)+s
				checkUnsixes(t, more)
				checkUnsixes(t, ahead)
				if len(more)%4 == 1 {
					checkNoSixes(t, more)
					checkNoSixes(t, ahead)
				}
			}
			if s == "" {
				continue
			}
			checkUnsixes(t, s[1:])
			checkUnsixes(t, s[:len(s)-1])
			if len(s)%4 == 2 {
				checkNoSixes(t, s[1:])
				checkNoSixes(t, s[:len(s)-1])
			}
		}
	}
}

// Of so many signs there are no bytes, whatever the signs are.
func TestUnsixesOfNoSize(t *testing.T) {
	from := rand.New(rand.NewSource(212121))
	for many := 1; many < 400; many += 4 {
		for _, sign := range "AZaz09-_Q" {
			checkNoSixes(t, strings.Repeat(string(sign), many))
		}
		for range 20 {
			checkNoSixes(t, drawnSigns(from, many))
		}
	}
}

func drawnSigns(from *rand.Rand, many int) string {
	signs := make([]byte, many)
	for i := range signs {
		signs[i] = addressSigns[from.Intn(len(addressSigns))]
	}
	return string(signs)
}

// Drawn texts are read where they are the signs of some bytes, and nowhere else; the library says so, too.
func TestUnsixesOfDrawnTexts(t *testing.T) {
	from, count := rand.New(rand.NewSource(21212121)), map[string]int{}
	for range 40000 {
		s := drawnSigns(from, from.Intn(90))
		if from.Intn(6) == 0 && s != "" {
			place := from.Intn(len(s))
			s = s[:place] + []string{"+", "/", "=", " ", "\n", "\x00", "é", "\xff", "Ā", "", "*"}[from.Intn(11)] + s[place+1:]
		}
		ok := checkUnsixes(t, s)
		want, err := librarySixes.DecodeString(s)
		if b, _ := impl.Unsixes(s); !strings.Contains(s, "\n") && (ok != (err == nil) || ok && !bytes.Equal(b, want)) {
			t.Fatalf("Unsixes(%q) = %x, %t, and by the library %x, %v", s, b, ok, want, err)
		}
		count[fmt.Sprint(len(s)%4, ok)]++
	}
	checkOften(t, count, 300, "0 true", "0 false", "1 false", "2 true", "2 false", "3 true", "3 false")
}

// Two lists of bytes never have the same signs, and those of a longer one begin as those of its beginning of whole groups.
func TestSixesTellBytesApart(t *testing.T) {
	seen := map[string][]byte{}
	for many := range 100 {
		for _, b := range [][]byte{make([]byte, many), bytes.Repeat([]byte{255}, many), someBytes(many), someBytes(300)[:many]} {
			s := impl.Sixes(b)
			if other, was := seen[s]; was && !bytes.Equal(b, other) {
				t.Errorf("%x and %x have the signs %q", b, other, s)
			}
			seen[s] = b
			whole := many - many%3
			if head, tail := impl.Sixes(b[:whole]), impl.Sixes(b[whole:]); head+tail != s {
				t.Errorf("%q and %q are not %q", head, tail, s)
			}
		}
	}
}

func TestSixesLen(t *testing.T) {
	for n, want := range map[int]int{0: 0, 1: 2, 2: 3, 3: 4, 4: 6, 5: 7, 6: 8, 7: 10, 8: 11, 9: 12, 10: 14, 32: 43, 100: 134, 3998: 5331, impl.MaxHash - 1: 5332, impl.MaxHash: 5334} {
		if got := impl.SixesLen(n); got != want {
			t.Errorf("SixesLen(%d) = %d, want %d", n, got, want)
		}
	}
	for _, n := range []int{-1, -2, -3, -4, -3000, -impl.MaxHash, -impl.MaxHash - 1, impl.MaxHash + 1, impl.MaxHash + 2, impl.MaxHash + 3, 5334, 2 * impl.MaxHash, math.MaxInt32, math.MinInt32, 1 << 32, 1<<32 + 3, 1 << 61, math.MaxInt, math.MaxInt - 1, math.MinInt, math.MinInt + 1} {
		if got := impl.SixesLen(n); got != 0 {
			t.Errorf("SixesLen(%d) = %d, want 0", n, got)
		}
	}
}

func TestSixesLenOfEachSize(t *testing.T) {
	b := someBytes(impl.MaxHash)
	for n := range impl.MaxHash + 1 {
		s := impl.Sixes(b[:n])
		if got := impl.SixesLen(n); got != len(s) || got != librarySixes.EncodedLen(n) {
			t.Fatalf("SixesLen(%d) = %d, and there are %d signs", n, got, len(s))
		}
		if got, ok := impl.Unsixes(s); !ok || !bytes.Equal(got, b[:n]) {
			t.Fatalf("%d bytes are not read from their signs as they were", n)
		}
	}
}

func TestSixesLeaveTheirArgumentsAlone(t *testing.T) {
	// Bytes stand behind, which filling up in place would write over.
	room := someBytes(400)
	kept := bytes.Clone(room)
	for many := range 300 {
		impl.Sixes(room[:many])
		impl.Sixes(room[7 : 7+many])
	}
	if !bytes.Equal(room, kept) {
		t.Errorf("%x turned into %x", kept, room)
	}
	for many := range 70 {
		s := sixesOf(someBytes(many))
		for _, text := range []string{s, s + "=", s + "A", s + "é"} {
			was := strings.Clone(text)
			impl.Unsixes(text)
			if text != was {
				t.Errorf("%q turned into %q", was, text)
			}
		}
	}
}

func TestSixesAnswerAnewEachTime(t *testing.T) {
	for _, many := range sixesSizes {
		want := someBytes(many)
		s := sixesOf(want)
		checkAnew(t, "Unsixes", func() []byte { b, _ := impl.Unsixes(s); return b })
		one, _ := impl.Unsixes(s)
		two, _ := impl.Unsixes(s)
		clear(one[:cap(one)])
		if !bytes.Equal(two, want) || s != sixesOf(want) {
			t.Fatalf("an answer of %d bytes shares memory with another one", many)
		}
		b := bytes.Clone(want)
		signs := impl.Sixes(b)
		clear(b)
		if signs != s {
			t.Fatalf("the signs %q became %q with the bytes behind them", s, signs)
		}
	}
}

func TestSixesOfManyAtATime(t *testing.T) {
	var all sync.WaitGroup
	for range 16 {
		all.Go(func() {
			for _, many := range slices.Concat(sixesSizes, []int{impl.MaxHash}) {
				b := someBytes(many)
				s := impl.Sixes(b)
				got, ok := impl.Unsixes(s)
				if no, bad := impl.Unsixes(s + "="); s != sixesOf(b) || !ok || !bytes.Equal(got, b) || bad || len(no) != 0 || impl.SixesLen(many) != len(s) {
					t.Errorf("%d bytes have the signs %q, of which %x, %t is read", many, s, got, ok)
				}
			}
		})
	}
	all.Wait()
}
