package tests

import (
	"bytes"
	"crypto/hkdf"
	"crypto/hmac"
	"crypto/sha256"
	"math"
	"slices"
	"testing"

	"loop.example/g00473/impl"
)

const (
	maxMac    = impl.MaxHash - 64
	maxPart   = 400
	maxExpand = 255 * 32
)

func macOf(key, b []byte) []byte {
	m := hmac.New(sha256.New, key)
	m.Write(b)
	return m.Sum(nil)
}

func extractOf(t *testing.T, salt, b []byte) []byte {
	t.Helper()
	key, err := hkdf.Extract(sha256.New, b, salt)
	if err != nil {
		t.Fatal(err)
	}
	return key
}

func expandOf(t *testing.T, key, info []byte, many int) []byte {
	t.Helper()
	b, err := hkdf.Expand(sha256.New, key, string(info), many)
	if err != nil {
		t.Fatal(err)
	}
	return b
}

// The examples that were published with the code (RFC 4231), those with keys of more than a block too.
func TestMac(t *testing.T) {
	long := bytes.Repeat([]byte{0xaa}, 131)
	for _, c := range []struct {
		key, b []byte
		want   string
	}{
		{bytes.Repeat([]byte{0x0b}, 20), []byte("Hi There"), "b0344c61d8db38535ca8afceaf0bf12b881dc200c9833da726e9376c2e32cff7"},
		{[]byte("Jefe"), []byte("what do ya want for nothing?"), "5bdcc146bf60754e6a042426089575c75a003f089d2739839dec58b964ec3843"},
		{bytes.Repeat([]byte{0xaa}, 20), bytes.Repeat([]byte{0xdd}, 50), "773ea91e36800e46854db8ebd09181a72959098b3ef8c122d9635514ced565fe"},
		{allBytes()[1:26], bytes.Repeat([]byte{0xcd}, 50), "82558a389a443c0ea4cc819899f2083a85f0faa3e578f8077a2e3ff46729665b"},
		{long, []byte("Test Using Larger Than Block-Size Key - Hash Key First"), "60e431591ee0b67f0d8a26aacbf5b77f8e0bc6213728c5140546040f0ee37f54"},
		{long, []byte("This is a test using a larger than block-size key and a larger than block-size data. The key needs to be hashed before being used by the HMAC algorithm."), "9b09ffa71b942fcb27635fbcd5b0e944bfdc63644f0713938a7f51535c3a35e2"},
		{nil, nil, "b613679a0814d9ec772f95d778c35fc5ff1697c493715653c6c712144292c5ad"},
		{[]byte{}, []byte{}, "b613679a0814d9ec772f95d778c35fc5ff1697c493715653c6c712144292c5ad"},
	} {
		if got := impl.Hex(impl.Mac(c.key, c.b)); got != c.want {
			t.Errorf("Mac(%x, %x) = %s, want %s", c.key, c.b, got, c.want)
		}
	}
}

func TestMacByKeysOfEachLength(t *testing.T) {
	all, texts := someBytes(maxMac), [][]byte{nil, []byte("abc"), someBytes(64)}
	for many := range maxMac + 1 {
		// Far from a block the lengths are alike but for how a hash goes; each thirteenth will do.
		if many > 300 && many < maxMac-70 && many%13 != 0 {
			continue
		}
		for _, b := range texts {
			if got, want := impl.Mac(all[:many], b), macOf(all[:many], b); !bytes.Equal(got, want) {
				t.Fatalf("Mac by %d bytes of %d = %x, want %x", many, len(b), got, want)
			}
		}
	}
}

func TestMacOfTextsOfEachLength(t *testing.T) {
	all := someBytes(maxMac)
	for _, key := range [][]byte{[]byte("key"), someBytes(100)} {
		for many := range maxMac + 1 {
			if got, want := impl.Mac(key, all[:many]), macOf(key, all[:many]); !bytes.Equal(got, want) {
				t.Fatalf("Mac by %d bytes of %d = %x, want %x", len(key), many, got, want)
			}
		}
	}
}

// A key that just fills a block stands for itself, one that has a byte more for its hash; bytes 0 behind a short one are none.
func TestMacByAKeyAroundABlock(t *testing.T) {
	b := []byte("a text")
	block := someBytes(64)
	if bytes.Equal(impl.Mac(block, b), impl.Mac(impl.Hash(block), b)) {
		t.Error("a key of a block is hashed")
	}
	more := someBytes(65)
	if !bytes.Equal(impl.Mac(more, b), impl.Mac(impl.Hash(more), b)) {
		t.Error("a key of a block and a byte is not hashed")
	}
	for many := range 65 {
		key := block[:many]
		filled := append(bytes.Clone(key), make([]byte, 64-many)...)
		if !bytes.Equal(impl.Mac(key, b), impl.Mac(filled, b)) {
			t.Errorf("a key of %d bytes is another than with bytes 0 behind it", many)
		}
	}
	if bytes.Equal(impl.Mac(make([]byte, 64), b), impl.Mac(make([]byte, 65), b)) {
		t.Error("65 bytes 0 are as 64")
	}
	// Keys that turn one of the two blocks into bytes 0.
	for _, x := range []byte{0, 54, 92, 255, 54 ^ 92} {
		key := bytes.Repeat([]byte{x}, 64)
		for _, b := range [][]byte{nil, make([]byte, 64), make([]byte, 128), key, slices.Repeat(key, 2)} {
			if got, want := impl.Mac(key, b), macOf(key, b); !bytes.Equal(got, want) {
				t.Errorf("Mac by bytes %d of %x = %x, want %x", x, b, got, want)
			}
		}
	}
}

func TestMacOfTooManyBytes(t *testing.T) {
	for _, many := range []int{maxMac - 1, maxMac, maxMac + 1, maxMac + 63, impl.MaxHash, impl.MaxHash + 1, 2 * impl.MaxHash, 1 << 20} {
		b, want := make([]byte, many), 32
		if many > maxMac {
			want = 0
		}
		for name, got := range map[string][]byte{
			"Mac by":     impl.Mac(b, []byte("abc")),
			"Mac of":     impl.Mac([]byte("abc"), b),
			"Mac both":   impl.Mac(b, b),
			"Extract by": impl.Extract(b, nil),
			"Extract of": impl.Extract(nil, b),
		} {
			if len(got) != want {
				t.Errorf("%s %d bytes has %d, want %d", name, many, len(got), want)
			}
		}
	}
}

func TestExtract(t *testing.T) {
	for _, saltMany := range []int{0, 1, 13, 31, 32, 33, 63, 64, 65, 80, 300, maxMac} {
		for _, many := range []int{0, 1, 22, 63, 64, 65, 80, maxMac} {
			salt, b := someBytes(saltMany), someBytes(many)
			got, want := impl.Extract(salt, b), extractOf(t, salt, b)
			if !bytes.Equal(got, want) {
				t.Errorf("Extract by %d bytes of %d = %x, want %x", saltMany, many, got, want)
			}
			if saltMany > 0 && !bytes.Equal(got, impl.Mac(salt, b)) {
				t.Errorf("Extract by %d bytes of %d is not Mac", saltMany, many)
			}
		}
	}
	want := impl.Mac(make([]byte, 32), []byte("abc"))
	for _, none := range [][]byte{nil, {}} {
		if got := impl.Extract(none, []byte("abc")); !bytes.Equal(got, want) {
			t.Errorf("Extract without a salt = %x, want %x", got, want)
		}
	}
}

// The examples that were published with the keys (RFC 5869).
func TestDerive(t *testing.T) {
	for _, c := range []struct {
		b, salt, info []byte
		many          int
		key, want     string
	}{
		{bytes.Repeat([]byte{0x0b}, 22), allBytes()[:13], allBytes()[0xf0:0xfa], 42,
			"077709362c2e32df0ddc3f0dc47bba6390b6c73bb50f9c3122ec844ad7c2b3e5",
			"3cb25f25faacd57a90434f64d0362f2a2d2d0a90cf1a5a4c5db02d56ecc4c5bf34007208d5b887185865"},
		{allBytes()[:0x50], allBytes()[0x60:0xb0], allBytes()[0xb0:], 82,
			"06a6b88c5853361a06104c9ceb35b45cef760014904671014a193f40c15fc244",
			"b11e398dc80327a1c8e7f78c596a49344f012eda2d4efad8a050cc4c19afa97c59045a99cac7827271cb41c65e590e09da3275600c2f09b8367793a9aca3db71cc30c58179ec3e87c14c01d5c1f3434f1d87"},
		{bytes.Repeat([]byte{0x0b}, 22), nil, nil, 42,
			"19ef24a32c717b167f33a91d6f648bdf96596776afdb6377ac434c1c293ccb04",
			"8da4e775a563c18f715f802a063c5a31b8a11f5c5ee1879ec3454e5f3c738d2d9d201395faa4b61a96c8"},
	} {
		key := impl.Extract(c.salt, c.b)
		if got := impl.Hex(key); got != c.key {
			t.Errorf("Extract(%x, %x) = %s, want %s", c.salt, c.b, got, c.key)
		}
		if got := impl.Hex(impl.Expand(key, c.info, c.many)); got != c.want {
			t.Errorf("Expand(%x, %x, %d) = %s, want %s", key, c.info, c.many, got, c.want)
		}
		if got := impl.Hex(impl.Derive(c.salt, c.b, c.info, c.many)); got != c.want {
			t.Errorf("Derive(%x, %x, %x, %d) = %s, want %s", c.salt, c.b, c.info, c.many, got, c.want)
		}
	}
}

// Where there is no Extract, what is expanded is nothing: that is a key too.
func TestDeriveIsExpandOfExtract(t *testing.T) {
	for _, saltMany := range []int{0, 1, 64, 65, 401, maxMac, maxMac + 1} {
		for _, bMany := range []int{0, 1, 401, maxMac, maxMac + 1, impl.MaxHash + 1} {
			for _, infoMany := range []int{0, 1, maxPart, maxPart + 1} {
				for _, many := range []int{math.MinInt, -1, 0, 1, 32, 33, maxExpand, maxExpand + 1, math.MaxInt} {
					salt, b, info := someBytes(saltMany), someBytes(bMany), someBytes(infoMany)
					want := impl.Expand(impl.Extract(salt, b), info, many)
					if got := impl.Derive(salt, b, info, many); !bytes.Equal(got, want) {
						t.Errorf("Derive of %d, %d and %d bytes, %d = %x, want %x", saltMany, bMany, infoMany, many, got, want)
					}
				}
			}
		}
	}
}

func TestExpandOfEachLength(t *testing.T) {
	for _, c := range []struct{ key, info []byte }{
		{nil, nil}, {[]byte{}, []byte{}}, {someBytes(32), nil}, {nil, someBytes(10)}, {someBytes(64), someBytes(23)}, {someBytes(65), someBytes(32)}, {someBytes(maxPart), someBytes(maxPart)},
	} {
		longest := impl.Expand(c.key, c.info, maxExpand)
		if want := expandOf(t, c.key, c.info, maxExpand); !bytes.Equal(longest, want) {
			t.Fatalf("Expand by %d bytes of %d is another than the library's", len(c.key), len(c.info))
		}
		derived := impl.Derive(nil, c.key, c.info, maxExpand)
		for many := 1; many <= maxExpand; many++ {
			// Beyond some parts few will do: with each 197th every place of a part has its turn.
			if many > 130 && many < maxExpand-33 && many%197 != 0 {
				continue
			}
			if got := impl.Expand(c.key, c.info, many); len(got) != many || !bytes.HasPrefix(longest, got) {
				t.Fatalf("Expand by %d bytes of %d: its longest does not begin with its %d", len(c.key), len(c.info), many)
			}
			if got := impl.Derive(nil, c.key, c.info, many); len(got) != many || !bytes.HasPrefix(derived, got) {
				t.Fatalf("Derive of %d and %d bytes: its longest does not begin with its %d", len(c.key), len(c.info), many)
			}
		}
	}
}

func TestExpandIsItsParts(t *testing.T) {
	for _, keyMany := range []int{0, 1, 32, 64, 65, maxPart} {
		for _, infoMany := range []int{0, 1, 31, maxPart} {
			key, info := someBytes(keyMany), someBytes(infoMany)
			var want, part []byte
			for number := 1; number <= 255; number++ {
				part = impl.Mac(key, slices.Concat(part, info, []byte{byte(number)}))
				want = append(want, part...)
			}
			if got := impl.Expand(key, info, maxExpand); len(want) != maxExpand || !bytes.Equal(got, want) {
				t.Errorf("Expand by %d bytes of %d is not its parts", keyMany, infoMany)
			}
		}
	}
}

func TestExpandOfOtherSizes(t *testing.T) {
	for _, many := range []int{math.MinInt, -maxExpand, -1, 0, maxExpand + 1, maxExpand + 32, 256 * 32, 1 << 32, math.MaxInt} {
		if got := impl.Expand([]byte("key"), []byte("info"), many); len(got) != 0 {
			t.Errorf("Expand to %d bytes has %d", many, len(got))
		}
		if got := impl.Derive([]byte("salt"), []byte("abc"), []byte("info"), many); len(got) != 0 {
			t.Errorf("Derive of %d bytes has %d", many, len(got))
		}
	}
	for _, many := range []int{1, 32, 33, maxExpand} {
		if got := impl.Expand([]byte("key"), []byte("info"), many); len(got) != many {
			t.Errorf("Expand to %d bytes has %d", many, len(got))
		}
	}
	for _, many := range []int{maxPart - 1, maxPart, maxPart + 1, maxMac, maxMac + 1, impl.MaxHash + 1, 1 << 20} {
		b, want := make([]byte, many), 33
		if many > maxPart {
			want = 0
		}
		for name, got := range map[string][]byte{
			"Expand by":   impl.Expand(b, nil, 33),
			"Expand of":   impl.Expand(nil, b, 33),
			"Expand both": impl.Expand(b, b, 33),
			"Derive of":   impl.Derive(nil, nil, b, 33),
		} {
			if len(got) != want {
				t.Errorf("%s %d bytes has %d, want %d", name, many, len(got), want)
			}
		}
	}
}

func TestMacLeavesItsArgumentsAlone(t *testing.T) {
	// Lists with spare room behind them, where an append would write.
	key, b, info := someBytes(500), someBytes(501), someBytes(502)
	was := slices.Concat(key, b, info)
	for _, many := range []int{0, 1, 32, 63, 64, 65, maxPart} {
		for _, got := range [][]byte{
			impl.Mac(key[:many], b[:many]),
			impl.Extract(key[:many], b[:many]),
			impl.Expand(key[:many], info[:many], 70),
			impl.Derive(key[:many], b[:many], info[:many], 70),
		} {
			clear(got[:cap(got)])
		}
	}
	if !bytes.Equal(slices.Concat(key, b, info), was) {
		t.Error("arguments are no longer as they were")
	}
}

func TestMacAnswersAnewEachTime(t *testing.T) {
	key, b := []byte("key"), someBytes(64)
	answers := func() [][]byte {
		return [][]byte{impl.Mac(key, b), impl.Mac(b, key), impl.Extract(nil, b), impl.Expand(key, b, 32), impl.Expand(key, b, 70), impl.Derive(key, b, b, 64)}
	}
	first := answers()
	for range 3 {
		for _, got := range answers() {
			clear(got[:cap(got)])
		}
		// Another key and text in between: nothing of them is to be kept.
		impl.Mac(someBytes(100), make([]byte, 128))
		for i, got := range answers() {
			if !bytes.Equal(got, first[i]) {
				t.Errorf("answer %d is another after the last one was changed", i)
			}
		}
	}
}
