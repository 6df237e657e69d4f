package tests

import (
	"bytes"
	"encoding/binary"
	"runtime"
	"slices"
	"sync"
	"testing"

	"loop.example/g00473/impl"
)

// sealLengths stand around a tag's block, around a stream's block, and at the limit.
var sealLengths = []int{0, 1, 2, 15, 16, 17, 31, 32, 33, 63, 64, 65, 127, 128, 129, 1487, 1488, 1489, impl.MaxPlain - 1, impl.MaxPlain}

// tagTextOf is the text of the published chapter, filled up byte by byte.
func tagTextOf(aad, b []byte) []byte {
	var text []byte
	for _, part := range [][]byte{aad, b} {
		text = append(text, part...)
		for len(text)%16 != 0 {
			text = append(text, 0)
		}
	}
	text = binary.LittleEndian.AppendUint64(text, uint64(len(aad)))
	return binary.LittleEndian.AppendUint64(text, uint64(len(b)))
}

// tagged puts the right tag behind what is streamed already; it knows no limits.
func tagged(key, nonce, aad, streamed []byte) []byte {
	tagKey := streamBlockOf(key, 0, nonce)[:32]
	return slices.Concat(streamed, tagOf(tagKey, tagTextOf(aad, streamed)))
}

func sealOf(key, nonce, aad, b []byte) []byte {
	return tagged(key, nonce, aad, streamOf(key, 1, nonce, b))
}

func sealed(t *testing.T, key, nonce, aad, b []byte) []byte {
	t.Helper()
	got, ok := impl.Seal(key, nonce, aad, b)
	if !ok || !bytes.Equal(got, sealOf(key, nonce, aad, b)) {
		t.Fatalf("Seal of %d bytes with %d = %x, %t, want %x", len(b), len(aad), got, ok, sealOf(key, nonce, aad, b))
	}
	return got
}

func checkOpens(t *testing.T, key, nonce, aad, box, want []byte) {
	t.Helper()
	if got, ok := impl.Open(key, nonce, aad, box); !ok || !bytes.Equal(got, want) {
		t.Fatalf("Open of %d bytes with %d = %x, %t, want %x", len(box), len(aad), got, ok, want)
	}
}

func checkShut(t *testing.T, what string, key, nonce, aad, box []byte) {
	t.Helper()
	if got, ok := impl.Open(key, nonce, aad, box); ok || len(got) != 0 {
		t.Errorf("%s: Open of %d bytes with %d = %x, %t, want nothing and false", what, len(box), len(aad), got, ok)
	}
}

func checkUnsealed(t *testing.T, what string, key, nonce, aad, b []byte) {
	t.Helper()
	if got, ok := impl.Seal(key, nonce, aad, b); ok || len(got) != 0 {
		t.Errorf("%s: Seal of %d bytes with %d = %x, %t, want nothing and false", what, len(b), len(aad), got, ok)
	}
}

// bent is b with one bit of a byte changed.
func bent(b []byte, place int, mask byte) []byte {
	other := bytes.Clone(b)
	other[place] ^= mask
	return other
}

// The examples that were published with the seals (RFC 8439, 2.8.2 and A.5).
func TestSeal(t *testing.T) {
	sunscreen := "Ladies and Gentlemen of the class of '99: If I could offer you only one tip for the future, sunscreen would be it."
	drafts := "Internet-Drafts are draft documents valid for a maximum of six months and may be updated, replaced, or obsoleted by other documents at any time. It is inappropriate to use Internet-Drafts as reference material or to cite them other than as /\u201cwork in progress./\u201d"
	for _, c := range []struct{ key, nonce, aad, text, want string }{
		{"808182838485868788898a8b8c8d8e8f909192939495969798999a9b9c9d9e9f", "070000004041424344454647", "50515253c0c1c2c3c4c5c6c7", sunscreen, `
			d31a8d34648e60db7b86afbc53ef7ec2 a4aded51296e08fea9e2b5a736ee62d6
			3dbea45e8ca9671282fafb69da92728b 1a71de0a9e060b2905d6a5b67ecd3b36
			92ddbd7f2d778b8c9803aee328091b58 fab324e4fad675945585808b4831d7bc
			3ff4def08e4b7a9de576d26586cec64b 6116
			1ae10b594f09e26a7e902ecbd0600691`},
		{"1c9240a5eb55d38af333888604f6b5f0473917c1402b80099dca5cbc207075c0", "000000000102030405060708", "f33388860000000000004e91", drafts, `
			64a0861575861af460f062c79be643bd 5e805cfd345cf389f108670ac76c8cb2
			4c6cfc18755d43eea09ee94e382d26b0 bdb7b73c321b0100d4f03b7f355894cf
			332f830e710b97ce98c8a84abd0b9481 14ad176e008d33bd60f982b1ff37c855
			9797a06ef4f0ef61c186324e2b350638 3606907b6a7c02b0f9f6157b53c867e4
			b9166c767b804d46a59b5216cde7a4e9 9040c5a40433225ee282a1b0a06c523e
			af4534d7f83fa1155b0047718cbc546a 0d072b04b3564eea1b422273f548271a
			0bb2316053fa76991955ebd63159434e cebb4e466dae5a1073a6727627097a10
			49e617d91d361094fa68f0ff77987130 305beaba2eda04df997b714d6c6f2c29
			a6ad5cb4022b02709b
			eead9d67890cbb22392336fea1851f38`},
	} {
		key, nonce, aad, want := unhexed(t, c.key), unhexed(t, c.nonce), unhexed(t, c.aad), unhexed(t, c.want)
		if got, ok := impl.Seal(key, nonce, aad, []byte(c.text)); !ok || !bytes.Equal(got, want) {
			t.Errorf("Seal = %x, %t, want %x", got, ok, want)
		}
		if got, ok := impl.Open(key, nonce, aad, want); !ok || string(got) != c.text {
			t.Errorf("Open = %q, %t, want %q", got, ok, c.text)
		}
		// What the other tests hold against is held here itself.
		if got := sealOf(key, nonce, aad, []byte(c.text)); !bytes.Equal(got, want) {
			t.Errorf("the tests' own seal = %x, want %x", got, want)
		}
	}
}

func TestTagText(t *testing.T) {
	for _, c := range []struct{ aad, b, want string }{
		{"", "", "0000000000000000 0000000000000000"},
		{"07", "", "07000000000000000000000000000000 0100000000000000 0000000000000000"},
		{"", "07", "07000000000000000000000000000000 0000000000000000 0100000000000000"},
		{"0102", "030405", "01020000000000000000000000000000 03040500000000000000000000000000 0200000000000000 0300000000000000"},
		{"00112233445566778899aabbccddeeff", "ff", "00112233445566778899aabbccddeeff ff000000000000000000000000000000 1000000000000000 0100000000000000"},
	} {
		if got, want := impl.TagText(unhexed(t, c.aad), unhexed(t, c.b)), unhexed(t, c.want); !bytes.Equal(got, want) {
			t.Errorf("TagText(%s, %s) = %x, want %x", c.aad, c.b, got, want)
		}
	}
	if got := impl.TagText(nil, nil); !bytes.Equal(got, make([]byte, 16)) {
		t.Errorf("TagText of nothing = %x", got)
	}
}

// It has no limit of its own: also of more than may be sealed, or hashed, it tells all.
func TestTagTextOfManyLengths(t *testing.T) {
	lengths := slices.Concat(sealLengths, []int{impl.MaxPlain + 1, impl.MaxHash, impl.MaxHash + 1, 65535, 65536, 70001})
	for many := range 50 {
		lengths = append(lengths, many)
	}
	for _, withMany := range lengths {
		aad := someBytes(withMany)
		for _, many := range lengths {
			b := someBytes(many)
			if got, want := impl.TagText(aad, b), tagTextOf(aad, b); !bytes.Equal(got, want) {
				t.Fatalf("TagText of %d and %d bytes has %d bytes, want %d, or others", withMany, many, len(got), len(want))
			}
		}
	}
}

// Promise 7: at each length that is accepted, what is sealed is opened, and with another tag it is not.
func TestWhatIsSealedIsOpened(t *testing.T) {
	all, key, nonce := someBytes(impl.MaxPlain), someBytes(32), someBytes(12)
	for many := range impl.MaxPlain + 1 {
		aad, b := all[impl.MaxPlain-many%50:], all[:many]
		box := sealed(t, key, nonce, aad, b)
		if len(box) != many+16 {
			t.Fatalf("%d bytes sealed have %d", many, len(box))
		}
		checkOpens(t, key, nonce, aad, box, b)
		place := many + many%16
		checkShut(t, "another tag", key, nonce, aad, bent(box, place, 1<<(many%8)))
	}
}

// The lengths at which a part is filled up, and those at which it is not, each with each.
func TestWhatIsSealedIsOpenedAtTheEdges(t *testing.T) {
	key, nonce := someBytes(32), someBytes(12)
	for _, withMany := range sealLengths {
		for _, many := range sealLengths {
			aad, b := someBytes(withMany), someBytes(many)
			box := sealed(t, key, nonce, aad, b)
			checkOpens(t, key, nonce, aad, box, b)
			checkShut(t, "the last byte of the tag", key, nonce, aad, bent(box, many+15, 128))
			checkShut(t, "the first byte of the tag", key, nonce, aad, bent(box, many, 1))
		}
	}
}

// Nothing is a text like others: what it is sealed to is a tag alone, and it is opened with true.
func TestSealOfNothing(t *testing.T) {
	key, nonce := someBytes(32), someBytes(12)
	for _, aad := range [][]byte{nil, {}, {0}, someBytes(16), someBytes(impl.MaxPlain)} {
		for _, b := range [][]byte{nil, {}, make([]byte, 0, 40)} {
			box := sealed(t, key, nonce, aad, b)
			if len(box) != 16 {
				t.Fatalf("nothing is sealed to %x", box)
			}
			checkOpens(t, key, nonce, aad, box, nil)
			for bit := range 128 {
				checkShut(t, "another tag of nothing", key, nonce, aad, bent(box, bit/8, 1<<(bit%8)))
			}
		}
		checkShut(t, "bytes 0", key, nonce, aad, make([]byte, 16))
	}
}

// Each byte counts, those of the tag and those ahead of it: all bits of short texts, a bit of each byte of the longest.
func TestWhatWasChangedIsNotOpened(t *testing.T) {
	key, nonce := someBytes(32), someBytes(12)
	for _, withMany := range []int{0, 12, 16} {
		aad := someBytes(withMany)
		for _, many := range []int{0, 1, 15, 16, 17, 70} {
			b := someBytes(many)
			box := sealed(t, key, nonce, aad, b)
			for bit := range 8 * len(box) {
				checkShut(t, "a changed bit", key, nonce, aad, bent(box, bit/8, 1<<(bit%8)))
			}
			for place := range box {
				checkShut(t, "a changed byte", key, nonce, aad, bent(box, place, 255))
			}
			checkOpens(t, key, nonce, aad, box, b)
		}
	}
	aad := someBytes(impl.MaxPlain)
	box := sealed(t, key, nonce, aad, someBytes(impl.MaxPlain))
	for place := range box {
		checkShut(t, "a changed byte", key, nonce, aad, bent(box, place, 1<<(place%8)))
	}
	for place := range aad {
		checkShut(t, "a changed byte of what goes with it", key, nonce, bent(aad, place, 1<<(place%8)), box)
	}
}

// A tag may be wrong in two bytes that undo each other in a sum or in an Xor.
func TestTwoChangesDoNotUndoEachOther(t *testing.T) {
	key, nonce, aad, b := someBytes(32), someBytes(12), someBytes(20), someBytes(40)
	box := sealed(t, key, nonce, aad, b)
	for first := range box {
		for second := first + 1; second < len(box); second++ {
			checkShut(t, "two changed bytes", key, nonce, aad, bent(bent(box, first, 4), second, 4))
			swapped := bytes.Clone(box)
			swapped[first], swapped[second] = box[second], box[first]
			if !bytes.Equal(swapped, box) {
				checkShut(t, "two bytes that changed places", key, nonce, aad, swapped)
			}
		}
	}
}

func TestWithAnotherAadItIsNotOpened(t *testing.T) {
	key, nonce, b := someBytes(32), someBytes(12), someBytes(33)
	for _, many := range []int{0, 1, 12, 15, 16, 17, 32, 100} {
		aad := someBytes(many)
		box := sealed(t, key, nonce, aad, b)
		for bit := range 8 * many {
			checkShut(t, "another aad", key, nonce, bent(aad, bit/8, 1<<(bit%8)), box)
		}
		for cut := range many {
			checkShut(t, "an aad cut behind", key, nonce, aad[:cut], box)
			checkShut(t, "an aad cut ahead", key, nonce, aad[cut+1:], box)
		}
		// Bytes 0 fill an aad up for the tag; its length tells them from it.
		for more := 1; more <= 33; more++ {
			checkShut(t, "an aad with bytes 0 behind", key, nonce, slices.Concat(aad, make([]byte, more)), box)
		}
		checkShut(t, "the text as aad", key, nonce, b, box)
	}
}

// Where aad ends and the text begins counts, also where the bytes are the same, one behind the other.
func TestTheBorderOfTheAadCounts(t *testing.T) {
	key, nonce := someBytes(32), someBytes(12)
	for _, whole := range [][]byte{someBytes(64), make([]byte, 64)} {
		for border := 0; border <= 64; border += 8 {
			box := tagged(key, nonce, whole[:border], whole[border:])
			checkOpens(t, key, nonce, whole[:border], box, streamOf(key, 1, nonce, whole[border:]))
			for other := 0; other <= 64; other += 8 {
				if other != border {
					checkShut(t, "another border", key, nonce, whole[:other], slices.Concat(whole[other:], box[len(box)-16:]))
				}
			}
		}
	}
}

func TestByAnotherKeyOrNonceItIsNotOpened(t *testing.T) {
	key, nonce, aad := someBytes(32), someBytes(12), someBytes(12)
	for _, many := range []int{0, 1, 16, 80} {
		box := sealed(t, key, nonce, aad, someBytes(many))
		for bit := range 8 * len(key) {
			checkShut(t, "another key", bent(key, bit/8, 1<<(bit%8)), nonce, aad, box)
		}
		for bit := range 8 * len(nonce) {
			checkShut(t, "another nonce", key, bent(nonce, bit/8, 1<<(bit%8)), aad, box)
		}
	}
}

// What is cut to less than 16 bytes, to just 16, or to more: nothing of it is opened.
func TestWhatWasCutIsNotOpened(t *testing.T) {
	key, nonce, aad := someBytes(32), someBytes(12), someBytes(5)
	for _, many := range []int{0, 1, 15, 16, 17, 32, 100} {
		box := sealed(t, key, nonce, aad, someBytes(many))
		for cut := range box {
			checkShut(t, "cut behind", key, nonce, aad, box[:cut])
			checkShut(t, "cut ahead", key, nonce, aad, box[cut+1:])
		}
		checkShut(t, "nothing at all", key, nonce, aad, nil)
		for more := 1; more <= 33; more++ {
			checkShut(t, "bytes 0 behind", key, nonce, aad, slices.Concat(box, make([]byte, more)))
			checkShut(t, "bytes 0 ahead", key, nonce, aad, slices.Concat(make([]byte, more), box))
			checkShut(t, "bytes 0 ahead of the tag", key, nonce, aad, slices.Concat(box[:many], make([]byte, more), box[many:]))
		}
		checkShut(t, "twice", key, nonce, aad, slices.Concat(box, box))
	}
}

// Less than 16 bytes is no tag, whatever is or was behind it.
func TestOpenOfLessThanATag(t *testing.T) {
	key, nonce := someBytes(32), someBytes(12)
	box := sealed(t, key, nonce, nil, nil)
	for many := range 16 {
		checkShut(t, "with the tag's other bytes in the spare room", key, nonce, nil, box[:many])
		checkShut(t, "without room behind", key, nonce, nil, bytes.Clone(box[:many]))
		checkShut(t, "bytes 0", key, nonce, nil, make([]byte, many))
		checkShut(t, "by no key", nil, nonce, nil, box[:many])
		checkShut(t, "with too long an aad", key, nonce, make([]byte, impl.MaxPlain+1), box[:many])
	}
}

// What is opened hangs on the tag alone: what another put under a right one is opened too.
func TestWhatIsRightlyTaggedIsOpened(t *testing.T) {
	key, nonce := someBytes(32), someBytes(12)
	for _, many := range sealLengths {
		for _, streamed := range [][]byte{make([]byte, many), bytes.Repeat([]byte{255}, many), someBytes(many)} {
			aad := someBytes(many)
			checkOpens(t, key, nonce, aad, tagged(key, nonce, aad, streamed), streamOf(key, 1, nonce, streamed))
		}
	}
}

func TestSealByKeysAndNoncesOfAllBytes(t *testing.T) {
	all := slices.Concat(allBytes(), make([]byte, 44), bytes.Repeat([]byte{255}, 44))
	aad, b := someBytes(13), someBytes(131)
	for at := 0; at+44 <= len(all); at++ {
		key, nonce := all[at:at+32], all[at+32:at+44]
		checkOpens(t, key, nonce, aad, sealed(t, key, nonce, aad, b), b)
	}
}

// What is sealed tells its text by no byte that is streamed with the tag's key.
func TestTheTextIsStreamedFromTheSecondBlockOn(t *testing.T) {
	key, nonce := someBytes(32), someBytes(12)
	box := sealed(t, key, nonce, nil, make([]byte, 192))
	for i := range 3 {
		if got, want := box[64*i:64*(i+1)], impl.Block(key, i+1, nonce); !bytes.Equal(got, want) {
			t.Errorf("the 64 bytes %d are streamed by %x, want %x", i, got, want)
		}
	}
}

func TestSealByKeysAndNoncesOfOtherSizes(t *testing.T) {
	key, nonce, aad, b := someBytes(32), someBytes(12), someBytes(7), someBytes(20)
	box := sealed(t, key, nonce, aad, b)
	for many := range 100 {
		if many != 32 {
			other := someBytes(many)
			copy(other, key)
			checkUnsealed(t, "by a key of another size", other, nonce, aad, b)
			checkShut(t, "by a key of another size", other, nonce, aad, box)
		}
		if many != 12 {
			other := someBytes(many)
			copy(other, nonce)
			checkUnsealed(t, "with a nonce of another size", key, other, aad, b)
			checkShut(t, "with a nonce of another size", key, other, aad, box)
		}
	}
	// Spare room behind them is no part of them.
	checkUnsealed(t, "by a key with room behind", key[:31], nonce, aad, b)
	checkShut(t, "by a key with room behind", key[:31], nonce, aad, box)
	checkUnsealed(t, "with a nonce with room behind", key, nonce[:11], aad, b)
	checkShut(t, "with a nonce with room behind", key, nonce[:11], aad, box)
	// Together they have as many bytes as they should.
	checkUnsealed(t, "by 31 and 13 bytes", someBytes(31), someBytes(13), aad, b)
	checkUnsealed(t, "by the nonce", nonce, key, aad, b)
	checkShut(t, "by the nonce", nonce, key, aad, box)
	checkUnsealed(t, "by nothing", nil, nil, nil, nil)
	checkShut(t, "by nothing", nil, nil, nil, nil)
}

func TestMaxPlain(t *testing.T) {
	if impl.MaxPlain != 1500 {
		t.Errorf("MaxPlain is %d, want 1500", impl.MaxPlain)
	}
}

// Beyond the limits nothing is answered, also where the tag is right.
func TestSealOfTooManyBytes(t *testing.T) {
	key, nonce := someBytes(32), someBytes(12)
	full := someBytes(impl.MaxPlain)
	checkOpens(t, key, nonce, full, sealed(t, key, nonce, full, full), full)
	for _, many := range []int{impl.MaxPlain + 1, impl.MaxPlain + 15, impl.MaxPlain + 16, impl.MaxPlain + 17, 2 * impl.MaxPlain, impl.MaxHash, impl.MaxHash + 1, 1 << 18} {
		long := someBytes(many)
		for _, other := range [][]byte{nil, someBytes(16), full} {
			checkUnsealed(t, "too long a text", key, nonce, other, long)
			checkShut(t, "too long a text", key, nonce, other, sealOf(key, nonce, other, long))
			checkUnsealed(t, "too long an aad", key, nonce, long, other)
			checkShut(t, "too long an aad", key, nonce, long, sealOf(key, nonce, long, other))
		}
		checkUnsealed(t, "both too long", key, nonce, long, long)
		checkShut(t, "both too long", key, nonce, long, sealOf(key, nonce, long, long))
		checkUnsealed(t, "too long, and by nothing", nil, nil, long, long)
		checkShut(t, "too long, and by nothing", nil, nil, long, long)
	}
}

// What is not right is caught in the call that it is in: those beside it answer as ever, and none is left behind.
func TestSealOfManyAtATime(t *testing.T) {
	key, nonce, aad, b := someBytes(32), someBytes(12), someBytes(30), someBytes(300)
	box := sealOf(key, nonce, aad, b)
	before := runtime.NumGoroutine()
	var all sync.WaitGroup
	for range 16 {
		all.Go(func() {
			for i := range 50 {
				if got, ok := impl.Seal(key, nonce, aad, b); !ok || !bytes.Equal(got, box) {
					t.Errorf("Seal = %x, %t, want %x", got, ok, box)
				}
				checkShut(t, "a changed byte", key, nonce, aad, bent(box, i, 1))
				checkUnsealed(t, "by a short key", key[:31], nonce, aad, b)
				if got, ok := impl.Open(key, nonce, aad, box); !ok || !bytes.Equal(got, b) {
					t.Errorf("Open = %x, %t, want %x", got, ok, b)
				}
			}
		})
	}
	all.Wait()
	// One that has closed its channel may need a moment to be gone.
	for range 1000000 {
		if runtime.NumGoroutine() <= before {
			return
		}
		runtime.Gosched()
	}
	t.Errorf("%d are left behind", runtime.NumGoroutine()-before)
}

func TestSealLeavesItsArgumentsAlone(t *testing.T) {
	box := sealOf(someBytes(32), someBytes(12), someBytes(20), someBytes(50))
	// Each has room behind it, in which the next one stands.
	backing := slices.Concat(someBytes(32), someBytes(12), someBytes(20), someBytes(50), box, someBytes(100))
	kept := bytes.Clone(backing)
	key, nonce, aad, b, same := backing[:32], backing[32:44], backing[44:64], backing[64:114], backing[114:180]
	impl.TagText(aad, b)
	impl.TagText(backing[:0], backing[:17])
	impl.Seal(key, nonce, aad, b)
	impl.Seal(key, nonce, aad, b[:0])
	impl.Seal(key[:31], nonce, aad, b)
	if _, ok := impl.Open(key, nonce, aad, same); !ok {
		t.Error("it is not opened")
	}
	impl.Open(key, nonce, aad, same[:40])
	impl.Open(key, nonce, aad, same[:16])
	impl.Open(key, nonce, aad, same[:15])
	impl.Open(key, nonce[:11], aad, same)
	if !bytes.Equal(backing, kept) {
		t.Errorf("bytes turned into %x, want %x", backing, kept)
	}
}

func TestSealAnswersAnewEachTime(t *testing.T) {
	for _, many := range []int{0, 1, 16, 48, 100} {
		key, nonce, aad, b := someBytes(32), someBytes(12), someBytes(16), someBytes(many)
		box := sealOf(key, nonce, aad, b)
		for name, ask := range map[string]func() []byte{
			"TagText":            func() []byte { return impl.TagText(aad, b) },
			"TagText, no aad":    func() []byte { return impl.TagText(nil, b) },
			"TagText, all of 16": func() []byte { return impl.TagText(aad, aad) },
			"Seal":               func() []byte { answer, _ := impl.Seal(key, nonce, aad, b); return answer },
			"Open":               func() []byte { answer, _ := impl.Open(key, nonce, aad, box); return answer },
		} {
			first := ask()
			kept := bytes.Clone(first)
			for i := range first[:cap(first)] {
				first[:cap(first)][i] ^= 255
			}
			if again := ask(); !bytes.Equal(again, kept) {
				t.Errorf("%s of %d bytes, asked again, = %x, want %x", name, many, again, kept)
			}
		}
		if !bytes.Equal(key, someBytes(32)) || !bytes.Equal(nonce, someBytes(12)) || !bytes.Equal(aad, someBytes(16)) || !bytes.Equal(b, someBytes(many)) {
			t.Errorf("an answer of %d bytes shares memory with what it was given", many)
		}
	}
}
