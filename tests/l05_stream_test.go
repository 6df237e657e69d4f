package tests

import (
	"bytes"
	"encoding/binary"
	"math"
	"math/bits"
	"runtime"
	"slices"
	"strings"
	"sync"
	"testing"

	"loop.example/g00473/impl"
)

const maxCount = 1<<32 - 1

// unhexed are the bytes of signs that a test has written out, with spaces between them.
func unhexed(t *testing.T, signs string) []byte {
	t.Helper()
	b, ok := impl.Unhex(strings.Join(strings.Fields(signs), ""))
	if !ok {
		t.Fatalf("no signs of bytes: %s", signs)
	}
	return b
}

// quarterWords is the quarter of the published text, written down here once more.
func quarterWords(a, b, c, d *uint32) {
	*a += *b
	*d = bits.RotateLeft32(*d^*a, 16)
	*c += *d
	*b = bits.RotateLeft32(*b^*c, 12)
	*a += *b
	*d = bits.RotateLeft32(*d^*a, 8)
	*c += *d
	*b = bits.RotateLeft32(*b^*c, 7)
}

// streamBlockOf is the block of the published text, columns and diagonals by a rule instead of a table.
func streamBlockOf(key []byte, count uint32, nonce []byte) []byte {
	start := slices.Concat([]byte("expand 32-byte k"), key, binary.LittleEndian.AppendUint32(nil, count), nonce)
	var first [16]uint32
	for i := range first {
		first[i] = binary.LittleEndian.Uint32(start[4*i:])
	}
	now := first
	for range 10 {
		for slant := range 2 {
			for i := range 4 {
				quarterWords(&now[i], &now[4+(i+slant)%4], &now[8+(i+2*slant)%4], &now[12+(i+3*slant)%4])
			}
		}
	}
	var b []byte
	for i := range now {
		b = binary.LittleEndian.AppendUint32(b, now[i]+first[i])
	}
	return b
}

func streamOf(key []byte, count int, nonce []byte, b []byte) []byte {
	answer := bytes.Clone(b)
	for i := range answer {
		if i%64 == 0 {
			block := streamBlockOf(key, uint32(count+i/64), nonce)
			for j := i; j < min(i+64, len(b)); j++ {
				answer[j] ^= block[j-i]
			}
		}
	}
	return answer
}

func quarterOf(x []int, a, b, c, d int) []int {
	y := slices.Clone(x)
	var w [4]uint32
	for i, place := range [...]int{a, b, c, d} {
		w[i] = uint32(wordOf(y[place]))
	}
	quarterWords(&w[0], &w[1], &w[2], &w[3])
	for i, place := range [...]int{a, b, c, d} {
		y[place] = int(w[i])
	}
	return y
}

// someNumbers are 16 numbers, below 0 and above 32 bits among them.
func someNumbers(from int) []int {
	x := make([]int, 16)
	for i := range x {
		x[i] = wordNumbers[(from+i)%len(wordNumbers)]
	}
	return x
}

// The two examples that were published with the stream (RFC 8439, 2.1.1 and 2.2.1).
func TestQuarter(t *testing.T) {
	x := make([]int, 16)
	x[0], x[1], x[2], x[3] = 0x11111111, 0x01020304, 0x9b8d6f43, 0x01234567
	want := make([]int, 16)
	want[0], want[1], want[2], want[3] = 0xea2a92f4, 0xcb1cf8ce, 0x4581472e, 0x5881c4bb
	if got := impl.Quarter(x, 0, 1, 2, 3); !slices.Equal(got, want) {
		t.Errorf("Quarter = %x, want %x", got, want)
	}
	x = []int{
		0x879531e0, 0xc5ecf37d, 0x516461b1, 0xc9a62f8a, 0x44c20ef3, 0x3390af7f, 0xd9fc690b, 0x2a5f714c,
		0x53372767, 0xb00a5631, 0x974c541a, 0x359e9963, 0x5c971061, 0x3d631689, 0x2098d9d6, 0x91dbd320,
	}
	want = slices.Clone(x)
	want[2], want[7], want[8], want[13] = 0xbdb886dc, 0xcfacafd2, 0xe46bea80, 0xccc07c79
	if got := impl.Quarter(x, 2, 7, 8, 13); !slices.Equal(got, want) {
		t.Errorf("Quarter = %x, want %x", got, want)
	}
}

// Each four places of 0 to 15, and one past these on both sides: those that are alike, or none, leave it as it was.
func TestQuarterOfEachPlaces(t *testing.T) {
	x := someNumbers(0)
	places := slices.Concat([]int{-1, 16}, make([]int, 16))
	for i := range 16 {
		places[2+i] = i
	}
	for _, a := range places {
		for _, b := range places {
			for _, c := range places {
				for _, d := range places {
					four := []int{a, b, c, d}
					slices.Sort(four)
					want := x
					if four[0] >= 0 && four[3] < 16 && len(slices.Compact(four)) == 4 {
						want = quarterOf(x, a, b, c, d)
					}
					if got := impl.Quarter(x, a, b, c, d); !slices.Equal(got, want) {
						t.Fatalf("Quarter(%d %d %d %d) = %x, want %x", a, b, c, d, got, want)
					}
				}
			}
		}
	}
}

// The four become words; the twelve others stay as they are, also those below 0 or above 32 bits.
func TestQuarterOfManyNumbers(t *testing.T) {
	for from := range wordNumbers {
		x := someNumbers(from)
		for shift := range 16 {
			a, b, c, d := shift, (shift+5)%16, (shift+10)%16, (shift+15)%16
			if got, want := impl.Quarter(x, a, b, c, d), quarterOf(x, a, b, c, d); !slices.Equal(got, want) {
				t.Fatalf("Quarter(%x, %d %d %d %d) = %x, want %x", x, a, b, c, d, got, want)
			}
		}
	}
	for _, n := range []int{-1, math.MinInt, math.MaxInt, 1 << 32, 1<<32 + 7, -1 << 40} {
		x := slices.Repeat([]int{n}, 16)
		got := impl.Quarter(x, 3, 2, 1, 0)
		for i := range 4 {
			if got[i] < 0 || got[i] > maxCount {
				t.Errorf("Quarter of %d has %d at %d, which is no word", n, got[i], i)
			}
		}
		if !slices.Equal(got[4:], x[4:]) {
			t.Errorf("Quarter of %d turns the twelve others into %d", n, got[4:])
		}
	}
}

func TestQuarterOfOtherSizesAndPlaces(t *testing.T) {
	for _, many := range []int{0, 1, 4, 15, 17, 32, 1000} {
		x := make([]int, many)
		for i := range x {
			x[i] = wordNumbers[i%len(wordNumbers)]
		}
		if got := impl.Quarter(x, 0, 1, 2, 3); !slices.Equal(got, x) {
			t.Errorf("Quarter of %d numbers = %x, want %x", many, got, x)
		}
	}
	if got := impl.Quarter(nil, 0, 1, 2, 3); len(got) != 0 {
		t.Errorf("Quarter of nothing = %x", got)
	}
	x := someNumbers(3)
	for _, far := range []int{math.MinInt, -1 << 32, -16, -1, 16, 17, 1 << 32, 1<<32 + 4, math.MaxInt} {
		for at := range 4 {
			p := []int{0, 1, 2, 3}
			p[at] = far
			if got := impl.Quarter(x, p[0], p[1], p[2], p[3]); !slices.Equal(got, x) {
				t.Errorf("Quarter at %d = %x, want %x", p, got, x)
			}
		}
	}
}

// The examples that were published with the stream (RFC 8439, 2.3.2 and A.1).
func TestBlock(t *testing.T) {
	zeros, one := make([]byte, 32), make([]byte, 32)
	one[31] = 1
	shifted := make([]byte, 32)
	shifted[1] = 0xff
	for _, c := range []struct {
		key   []byte
		count int
		nonce string
		want  string
	}{
		{allBytes()[:32], 1, "000000090000004a00000000", "10f1e7e4d13b5915500fdd1fa32071c4c7d1f4c733c068030422aa9ac3d46c4ed2826446079faa0914c2d705d98b02a2b5129cd1de164eb9cbd083e8a2503c4e"},
		{zeros, 0, "000000000000000000000000", "76b8e0ada0f13d90405d6ae55386bd28bdd219b8a08ded1aa836efcc8b770dc7da41597c5157488d7724e03fb8d84a376a43b8f41518a11cc387b669b2ee6586"},
		{zeros, 1, "000000000000000000000000", "9f07e7be5551387a98ba977c732d080dcb0f29a048e3656912c6533e32ee7aed29b721769ce64e43d57133b074d839d531ed1f28510afb45ace10a1f4b794d6f"},
		{one, 1, "000000000000000000000000", "3aeb5224ecf849929b9d828db1ced4dd832025e8018b8160b82284f3c949aa5a8eca00bbb4a73bdad192b5c42f73f2fd4e273644c8b36125a64addeb006c13a0"},
		{shifted, 2, "000000000000000000000000", "72d54dfbf12ec44b362692df94137f328fea8da73990265ec1bbbea1ae9af0ca13b25aa26cb4a648cb9b9d1be65b2c0924a66c54d545ec1b7374f4872e99f096"},
		{zeros, 0, "000000000000000000000002", "c2c64d378cd536374ae204b9ef933fcd1a8b2288b3dfa49672ab765b54ee27c78a970e0e955c14f3a88e741b97c286f75f8fc299e8148362fa198a39531bed6d"},
	} {
		if got := impl.Hex(impl.Block(c.key, c.count, unhexed(t, c.nonce))); got != c.want {
			t.Errorf("Block(%x, %d, %s) = %s, want %s", c.key, c.count, c.nonce, got, c.want)
		}
	}
}

func TestBlockOfManyCounts(t *testing.T) {
	all := someBytes(32 + 12 + 400)
	for i := range 400 {
		key, nonce := all[i:i+32], all[i+32:i+44]
		for _, count := range []int{0, 1, i, 1 << 16, 1<<31 - 1, 1 << 31, maxCount - i, maxCount - 1, maxCount} {
			if got, want := impl.Block(key, count, nonce), streamBlockOf(key, uint32(count), nonce); !bytes.Equal(got, want) {
				t.Fatalf("Block(%x, %d, %x) = %x, want %x", key, count, nonce, got, want)
			}
		}
	}
	ones := bytes.Repeat([]byte{255}, 32)
	if got, want := impl.Block(ones, maxCount, ones[:12]), streamBlockOf(ones, maxCount, ones[:12]); !bytes.Equal(got, want) {
		t.Errorf("Block of bytes 255 = %x, want %x", got, want)
	}
}

// wrongCounts are no counts of a block.
var wrongCounts = []int{math.MinInt, math.MinInt + maxCount, -1 << 32, -maxCount, -64, -2, -1, maxCount + 1, maxCount + 2, 1<<33 + 1, math.MaxInt - 63, math.MaxInt - 1, math.MaxInt}

func TestBlockOfOtherSizes(t *testing.T) {
	key, nonce := someBytes(32), someBytes(12)
	for many := range 100 {
		if got := impl.Block(someBytes(many), 1, nonce); len(got) != 0 && many != 32 {
			t.Errorf("Block by %d bytes = %x, want nothing", many, got)
		}
		if got := impl.Block(key, 1, someBytes(many)); len(got) != 0 && many != 12 {
			t.Errorf("Block with a nonce of %d bytes = %x, want nothing", many, got)
		}
	}
	// A key and a nonce that together have as many bytes as they should.
	if got := impl.Block(someBytes(31), 1, someBytes(13)); len(got) != 0 {
		t.Errorf("Block of 31 and 13 bytes = %x, want nothing", got)
	}
	if got := impl.Block(nonce, 1, key); len(got) != 0 {
		t.Errorf("Block by the nonce = %x, want nothing", got)
	}
	if got := impl.Block(nil, 0, nil); len(got) != 0 {
		t.Errorf("Block of nothing = %x, want nothing", got)
	}
	for _, count := range wrongCounts {
		if got := impl.Block(key, count, nonce); len(got) != 0 {
			t.Errorf("Block of the count %d = %x, want nothing", count, got)
		}
	}
}

// The examples that were published with the stream (RFC 8439, 2.4.2 and A.2).
func TestStream(t *testing.T) {
	sunscreen := "Ladies and Gentlemen of the class of '99: If I could offer you only one tip for the future, sunscreen would be it."
	nonce := unhexed(t, "000000000000004a00000000")
	want := unhexed(t, `
		6e2e359a2568f98041ba0728dd0d6981 e97e7aec1d4360c20a27afccfd9fae0b
		f91b65c5524733ab8f593dabcd62b357 1639d624e65152ab8f530c359f0861d8
		07ca0dbf500d6a6156a38e088a22b65e 52bc514d16ccf806818ce91ab7793736
		5af90bbf74a35be6b40b8eedf2785e42 874d`)
	if got := impl.Stream(allBytes()[:32], 1, nonce, []byte(sunscreen)); !bytes.Equal(got, want) {
		t.Errorf("Stream = %x, want %x", got, want)
	}
	jabberwocky := "'Twas brillig, and the slithy toves\nDid gyre and gimble in the wabe:\nAll mimsy were the borogoves,\nAnd the mome raths outgrabe."
	key := unhexed(t, "1c9240a5eb55d38af333888604f6b5f0473917c1402b80099dca5cbc207075c0")
	nonce = unhexed(t, "000000000000000000000002")
	want = unhexed(t, `
		62e6347f95ed87a45ffae7426f27a1df 5fb69110044c0d73118effa95b01e5cf
		166d3df2d721caf9b21e5fb14c616871 fd84c54f9d65b283196c7fe4f60553eb
		f39c6402c42234e32a356b3e764312a6 1a5532055716ead6962568f87d3f3f77
		04c6a8d1bcd1bf4d50d6154b6da731b1 87b58dfd728afa36757a797ac188d1`)
	if got := impl.Stream(key, 42, nonce, []byte(jabberwocky)); !bytes.Equal(got, want) {
		t.Errorf("Stream = %x, want %x", got, want)
	}
}

// Promise 5, at each length around a block, the first and the last ones, and each seventh between them.
func TestStreamedTwiceItIsWhatItWas(t *testing.T) {
	all, key, nonce := someBytes(impl.MaxHash), someBytes(32), someBytes(12)
	for many := range impl.MaxHash + 1 {
		if many > 200 && many < impl.MaxHash-130 && many%7 != 0 && many%64 > 1 {
			continue
		}
		b := all[:many]
		for _, count := range []int{1, maxCount + 1 - (many+63)/64} {
			if count > maxCount {
				continue
			}
			once := impl.Stream(key, count, nonce, b)
			if want := streamOf(key, count, nonce, b); !bytes.Equal(once, want) {
				t.Fatalf("Stream of %d bytes by the count %d = %x, want %x", many, count, once, want)
			}
			if twice := impl.Stream(key, count, nonce, once); !bytes.Equal(twice, b) {
				t.Fatalf("%d bytes streamed twice by the count %d are %x", many, count, twice)
			}
		}
	}
}

// By another key, count or nonce it is not what it was.
func TestStreamedByAnotherItIsNotWhatItWas(t *testing.T) {
	b, key, nonce := someBytes(200), someBytes(32), someBytes(12)
	once := impl.Stream(key, 7, nonce, b)
	for i := range key {
		other := bytes.Clone(key)
		other[i] ^= 1
		if bytes.Equal(impl.Stream(other, 7, nonce, once), b) {
			t.Errorf("the byte %d of the key counts for nothing", i)
		}
	}
	for i := range nonce {
		other := bytes.Clone(nonce)
		other[i] ^= 1
		if bytes.Equal(impl.Stream(key, 7, other, once), b) {
			t.Errorf("the byte %d of the nonce counts for nothing", i)
		}
	}
	if bytes.Equal(impl.Stream(key, 8, nonce, once), b) {
		t.Error("the count counts for nothing")
	}
}

// A text that goes on does so by the next count; one of bytes 0 is its blocks.
func TestStreamIsItsBlocksOneBehindTheOther(t *testing.T) {
	b, key, nonce := someBytes(impl.MaxHash), someBytes(32), someBytes(12)
	whole := impl.Stream(key, 5, nonce, b)
	for cut := 0; cut <= len(b); cut += 64 {
		parts := slices.Concat(impl.Stream(key, 5, nonce, b[:cut]), impl.Stream(key, 5+cut/64, nonce, b[cut:]))
		if !bytes.Equal(parts, whole) {
			t.Errorf("Stream cut at %d = %x, want %x", cut, parts, whole)
		}
	}
	for _, count := range []int{0, 1<<31 - 2, maxCount - 3} {
		var blocks []byte
		for i := range 4 {
			blocks = append(blocks, impl.Block(key, count+i, nonce)...)
		}
		for many := range 4*64 + 1 {
			if got := impl.Stream(key, count, nonce, make([]byte, many)); !bytes.Equal(got, blocks[:many]) {
				t.Errorf("Stream of %d bytes 0 by %d = %x, want %x", many, count, got, blocks[:many])
			}
		}
	}
}

// How far a text may go: as long as its last block has a count.
func TestStreamOfTheLastCounts(t *testing.T) {
	key, nonce, all := someBytes(32), someBytes(12), someBytes(impl.MaxHash)
	for left := range 66 {
		count := maxCount + 1 - left
		for _, many := range []int{0, 1, 63, 64, 65, 64*left - 1, 64 * left, 64*left + 1, 64 * (left + 1), impl.MaxHash} {
			if many < 0 || many > impl.MaxHash {
				continue
			}
			want := all[:0]
			if many <= 64*left {
				want = streamOf(key, count, nonce, all[:many])
			}
			if got := impl.Stream(key, count, nonce, all[:many]); !bytes.Equal(got, want) {
				t.Errorf("Stream of %d bytes by the count %d has %d bytes, want %d", many, count, len(got), len(want))
			}
		}
	}
}

func TestStreamOfNothing(t *testing.T) {
	key, nonce := someBytes(32), someBytes(12)
	for _, b := range [][]byte{nil, {}, make([]byte, 0, 100)} {
		for _, count := range append([]int{0, 1, maxCount}, wrongCounts...) {
			if got := impl.Stream(key, count, nonce, b); len(got) != 0 {
				t.Errorf("Stream of nothing by the count %d = %x", count, got)
			}
			if got := impl.Stream(nil, count, nil, b); len(got) != 0 {
				t.Errorf("Stream of nothing by nothing = %x", got)
			}
		}
	}
}

func TestStreamOfOtherSizes(t *testing.T) {
	key, nonce := someBytes(32), someBytes(12)
	for _, b := range [][]byte{make([]byte, 1), []byte("abc"), make([]byte, 64), make([]byte, 65), make([]byte, impl.MaxHash)} {
		for many := range 70 {
			if got := impl.Stream(someBytes(many), 1, nonce, b); len(got) != 0 && many != 32 {
				t.Errorf("Stream by %d bytes = %x, want nothing", many, got)
			}
			if got := impl.Stream(key, 1, someBytes(many), b); len(got) != 0 && many != 12 {
				t.Errorf("Stream with a nonce of %d bytes = %x, want nothing", many, got)
			}
		}
		for _, count := range wrongCounts {
			if got := impl.Stream(key, count, nonce, b); len(got) != 0 {
				t.Errorf("Stream of %d bytes by the count %d = %x, want nothing", len(b), count, got)
			}
		}
	}
	for _, many := range []int{impl.MaxHash - 1, impl.MaxHash, impl.MaxHash + 1, impl.MaxHash + 31, impl.MaxHash + 32, 2 * impl.MaxHash, 1 << 20} {
		want := many
		if many > impl.MaxHash {
			want = 0
		}
		if got := impl.Stream(key, 0, nonce, make([]byte, many)); len(got) != want {
			t.Errorf("Stream of %d bytes has %d, want %d", many, len(got), want)
		}
	}
}

// What makes the blocks is done when the answer is there, also where nothing is answered.
func TestStreamLeavesNoneBehind(t *testing.T) {
	key, nonce, b := someBytes(32), someBytes(12), someBytes(1000)
	before := runtime.NumGoroutine()
	for range 300 {
		impl.Stream(key, 1, nonce, b)
		impl.Stream(key, maxCount-2, nonce, b)
		impl.Stream(key, maxCount+1, nonce, b)
		impl.Stream(nil, 1, nonce, b)
		impl.Stream(key, 1, nonce, nil)
		impl.Stream(key, 1, nonce, make([]byte, impl.MaxHash+1))
	}
	// One that has closed its channel may need a moment to be gone.
	for range 1000000 {
		if runtime.NumGoroutine() <= before {
			return
		}
		runtime.Gosched()
	}
	t.Errorf("%d are left behind", runtime.NumGoroutine()-before)
}

// Many at a time do not come into each other's way, and what was given may be written again once the answer is there.
func TestStreamOfManyAtATime(t *testing.T) {
	var all sync.WaitGroup
	for i := range 16 {
		all.Go(func() {
			key, nonce, b := someBytes(32), someBytes(12), someBytes(500+i)
			for count := range 50 {
				key[0], nonce[0] = byte(i), byte(count)
				got := impl.Stream(key, count, nonce, b)
				if want := streamOf(key, count, nonce, b); !bytes.Equal(got, want) {
					t.Errorf("Stream of %d bytes by the count %d = %x, want %x", len(b), count, got, want)
				}
			}
		})
	}
	all.Wait()
}

func TestStreamLeavesItsArgumentsAlone(t *testing.T) {
	backing := someBytes(300)
	kept := bytes.Clone(backing)
	key, nonce, b := backing[:32], backing[40:52], backing[60:160]
	for _, count := range []int{0, maxCount - 1, maxCount, -1} {
		impl.Block(key, count, nonce)
		impl.Stream(key, count, nonce, b)
		impl.Stream(backing[:32], count, backing[:12], backing[:200])
		impl.Stream(b, count, nonce, key)
	}
	if !bytes.Equal(backing, kept) {
		t.Errorf("bytes turned into %x, want %x", backing, kept)
	}
	numbers := slices.Repeat(someNumbers(0), 3)
	was := slices.Clone(numbers)
	impl.Quarter(numbers[:16], 0, 4, 8, 12)
	impl.Quarter(numbers[:16], 0, 0, 8, 12)
	impl.Quarter(numbers[:15], 0, 4, 8, 12)
	if !slices.Equal(numbers, was) {
		t.Errorf("numbers turned into %x, want %x", numbers, was)
	}
}

func TestStreamAnswersAnewEachTime(t *testing.T) {
	key, nonce, b := someBytes(32), someBytes(12), someBytes(130)
	for name, ask := range map[string]func() []byte{
		"Block":  func() []byte { return impl.Block(key, 1, nonce) },
		"Stream": func() []byte { return impl.Stream(key, 1, nonce, b) },
	} {
		first := ask()
		kept := bytes.Clone(first)
		clear(first[:cap(first)])
		if again := ask(); !bytes.Equal(again, kept) {
			t.Errorf("%s, asked again, = %x, want %x", name, again, kept)
		}
	}
	if !bytes.Equal(b, someBytes(130)) {
		t.Error("an answer shares memory with the text")
	}
	x := someNumbers(1)
	for _, places := range [][4]int{{0, 4, 8, 12}, {0, 0, 8, 12}, {0, 4, 8, 16}} {
		got := impl.Quarter(x, places[0], places[1], places[2], places[3])
		clear(got[:cap(got)])
		if !slices.Equal(x, someNumbers(1)) {
			t.Fatalf("Quarter at %d shares memory with its numbers", places)
		}
	}
	short := someNumbers(1)[:15]
	clear(impl.Quarter(short, 0, 4, 8, 12))
	if !slices.Equal(short, someNumbers(1)[:15]) {
		t.Error("Quarter of 15 numbers shares memory with them")
	}
}
