package tests

import (
	"bytes"
	"crypto/ecdh"
	"math/big"
	"math/rand"
	"slices"
	"sync"
	"testing"

	"loop.example/g00473/impl"
)

// libraryPoint is the point as the library makes it: 32 bytes 0 where it refuses one for that.
func libraryPoint(t *testing.T, k, u []byte) []byte {
	t.Helper()
	key, err := ecdh.X25519().NewPrivateKey(k)
	if err != nil {
		t.Fatal(err)
	}
	point, err := ecdh.X25519().NewPublicKey(u)
	if err != nil {
		t.Fatal(err)
	}
	made, err := key.ECDH(point)
	if err != nil {
		return make([]byte, 32)
	}
	return made
}

// clampOf is Clamp once more, on the whole number.
func clampOf(k []byte) []byte {
	n := littleNumber(k)
	for _, bit := range []int{0, 1, 2, 255} {
		n.SetBit(n, bit, 0)
	}
	return thirtyTwo(n.SetBit(n, 254, 1))
}

// ones32 are 32 bytes 255.
func ones32() []byte { return bytes.Repeat([]byte{255}, 32) }

// edgeKeys have each bit that does not count set and not set, or lie at the ends of those that do.
func edgeKeys() [][]byte {
	list := [][]byte{
		make([]byte, 32), ones32(), impl.FieldNum(1), impl.FieldNum(8), impl.FieldNum(9),
		thirtyTwo(power(254, 0)), thirtyTwo(power(254, 8)), thirtyTwo(power(255, 8)), thirtyTwo(power(255, 0)),
		thirtyTwo(fromP(0)), thirtyTwo(fromP(-1)), allBytes()[:32], allBytes()[224:], someBytes(32),
	}
	for _, bit := range []uint{3, 7, 8, 63, 64, 127, 128, 247, 248, 252, 253} {
		list = append(list, thirtyTwo(power(bit, 0)), thirtyTwo(new(big.Int).Sub(power(256, 1), power(bit, 0))))
	}
	return list
}

// withIdleBits are the 32 keys that are k but for the bits that do not count.
func withIdleBits(k []byte) [][]byte {
	var list [][]byte
	for low := range byte(8) {
		for high := range byte(4) {
			other := bytes.Clone(k)
			other[0] = other[0]&^7 | low
			other[31] = other[31]&63 | high<<6
			list = append(list, other)
		}
	}
	return list
}

// noughtPoints are those of which every key makes 0: 0 and 1 and P less 1, what is these by P, and two more.
func noughtPoints(t *testing.T) []*big.Int {
	return []*big.Int{
		big.NewInt(0), big.NewInt(1), fromP(-1), fromP(0), fromP(1),
		littleNumber(unhexed(t, "e0eb7a7c3b41b8ae1656e3faf19fc46ada098deb9c32b1fd866205165f49b800")),
		littleNumber(unhexed(t, "5f9c95bca3508c24b1d0b1559c83ef5b04445cc4581c8e86d8224eddd09f1157")),
	}
}

// edgePoints are around 0 and P, and up to the highest number there is; every key makes something of each.
func edgePoints() []*big.Int {
	list := []*big.Int{big.NewInt(2), big.NewInt(3), big.NewInt(8), big.NewInt(9), big.NewInt(18), big.NewInt(19), fromP(-20), fromP(-19), fromP(-2), fromP(2), fromP(9), fromP(17), power(255, 1), power(254, 0), power(254, 1)}
	for _, bit := range []uint{8, 63, 64, 128, 192, 253} {
		list = append(list, power(bit, 0), power(bit, 1))
	}
	return list
}

// checkPoint holds Point, and what Agreed says of it, against the library.
func checkPoint(t *testing.T, k, u []byte) {
	t.Helper()
	want := libraryPoint(t, k, u)
	if got := impl.Point(k, u); !bytes.Equal(got, want) {
		t.Fatalf("Point(%x, %x) = %x, want %x", k, u, got, want)
	}
	checkAgreed(t, k, u, want)
}

func checkAgreed(t *testing.T, k, u, want []byte) {
	t.Helper()
	right := !bytes.Equal(want, make([]byte, 32))
	if !right {
		want = nil
	}
	if got, ok := impl.Agreed(k, u); ok != right || !bytes.Equal(got, want) {
		t.Fatalf("Agreed(%x, %x) = %x, %t, want %x, %t", k, u, got, ok, want, right)
	}
}

// checkOne holds promise 9: what two make of each other's public points is one, and there is one.
func checkOne(t *testing.T, a, b []byte) {
	t.Helper()
	first, ok := impl.Agreed(a, impl.Public(b))
	if !ok || len(first) != 32 {
		t.Fatalf("of the keys %x and %x the first makes %x, %t", a, b, first, ok)
	}
	second, ok := impl.Agreed(b, impl.Public(a))
	if !ok || !bytes.Equal(first, second) {
		t.Fatalf("of the keys %x and %x one makes %x, the other %x, %t", a, b, first, second, ok)
	}
}

func TestClamp(t *testing.T) {
	for _, c := range []struct{ k, want string }{
		{"0000000000000000000000000000000000000000000000000000000000000000", "0000000000000000000000000000000000000000000000000000000000000040"},
		{"ffffffffffffffffffffffffffffffffffffffffffffffffffffffffffffffff", "f8ffffffffffffffffffffffffffffffffffffffffffffffffffffffffffff7f"},
		{"a546e36bf0527c9d3b16154b82465edd62144c0ac1fc5a18506a2244ba449ac4", "a046e36bf0527c9d3b16154b82465edd62144c0ac1fc5a18506a2244ba449a44"},
		{"0700000000000000000000000000000000000000000000000000000000000080", "0000000000000000000000000000000000000000000000000000000000000040"},
		{"0800000000000000000000000000000000000000000000000000000000000040", "0800000000000000000000000000000000000000000000000000000000000040"},
	} {
		if got := impl.Hex(impl.Clamp(unhexed(t, c.k))); got != c.want {
			t.Errorf("Clamp of %s = %s, want %s", c.k, got, c.want)
		}
	}
}

// Whatever the five bits were, they are as they are to be, and each other one is as it was.
func TestClampOfEachBit(t *testing.T) {
	keys := edgeKeys()
	for place := range 32 {
		for value := range 256 {
			k := someBytes(32)
			k[place] = byte(value)
			keys = append(keys, k)
		}
	}
	for _, k := range keys {
		got := impl.Clamp(k)
		if want := clampOf(k); !bytes.Equal(got, want) {
			t.Fatalf("Clamp(%x) = %x, want %x", k, got, want)
		}
		if again := impl.Clamp(got); !bytes.Equal(again, got) {
			t.Fatalf("Clamp of Clamp of %x = %x, want %x", k, again, got)
		}
	}
}

// The examples that were published with the curve (RFC 7748, 5.2): of the second the point has its highest bit set.
func TestPublishedPoints(t *testing.T) {
	for _, c := range []struct{ k, u, want string }{
		{
			"a546e36bf0527c9d3b16154b82465edd62144c0ac1fc5a18506a2244ba449ac4",
			"e6db6867583030db3594c1a424b15f7c726624ec26b3353b10a903a6d0ab1c4c",
			"c3da55379de9c6908e94ea4df28d084f32eccf03491c71f754b4075577a28552",
		},
		{
			"4b66e9d4d1b4673c5ad22691957d6af5c11b6421e0ea01d42ca4169e7918ba0d",
			"e5210f12786811d3f4b7959d0538ae2c31dbe7106fc03c3efc4cd549c715a493",
			"95cbde9476e8907d7aade45cb4b873f88b595a68799fa152e6f8f7647aac7957",
		},
	} {
		k, u := unhexed(t, c.k), unhexed(t, c.u)
		if got := impl.Hex(impl.Point(k, u)); got != c.want {
			t.Errorf("Point of %s at %s = %s, want %s", c.k, c.u, got, c.want)
		}
		checkPoint(t, k, u)
	}
}

// Each time the key is the point ahead, and the point is the key (RFC 7748, 5.2).
func TestPublishedPointsAgainAndAgain(t *testing.T) {
	k, u := impl.FieldNum(9), impl.FieldNum(9)
	want := map[int]string{
		1:    "422c8e7a6227d7bca1350b3e2bb7279f7897b87bb6854b783c60e80311ae3079",
		1000: "684cf59ba83309552800ef566f2f4d3c1c3887c49360e3875f2eb94d99532c51",
	}
	for round := 1; round <= 1000; round++ {
		k, u = impl.Point(k, u), k
		if want[round] != "" && impl.Hex(k) != want[round] {
			t.Errorf("round %d: %x, want %s", round, k, want[round])
		}
	}
}

// The two that were published with it (RFC 7748, 6.1), who make one of each other's points.
func TestPublishedAgreed(t *testing.T) {
	alice := unhexed(t, "77076d0a7318a57d3c16c17251b26645df4c2f87ebc0992ab177fba51db92c2a")
	bob := unhexed(t, "5dab087e624a8a4b79e17f8b83800ee66f3bb1292618b6fd1c2f8b27ff88e0eb")
	aliceAt := unhexed(t, "8520f0098930a754748b7ddcb43ef75a0dbf3a0d26381af4eba4a98eaa9b4e6a")
	bobAt := unhexed(t, "de9edb7d7b7dc1b4d35b61c2ece435373f8343c85b78674dadfc7e146f882b4f")
	shared := unhexed(t, "4a5d9d5ba4ce2de1728e3bf480350f25e07e21c947d19e3376f09b3c1e161742")
	if got := impl.Public(alice); !bytes.Equal(got, aliceAt) {
		t.Errorf("Public of Alice = %x", got)
	}
	if got := impl.Public(bob); !bytes.Equal(got, bobAt) {
		t.Errorf("Public of Bob = %x", got)
	}
	checkAgreed(t, alice, bobAt, shared)
	checkAgreed(t, bob, aliceAt, shared)
}

// Promise 9, at the edges of keys, each with each and with itself.
func TestWhatTwoMakeIsOneOfEdgeKeys(t *testing.T) {
	keys := edgeKeys()
	for i, a := range keys {
		for _, b := range keys[i:] {
			checkOne(t, a, b)
		}
	}
}

func TestWhatTwoMakeIsOneOfManyKeys(t *testing.T) {
	from := rand.New(rand.NewSource(9))
	for range 300 {
		checkOne(t, oftenEdgy(from), oftenEdgy(from))
	}
}

// Promise 9 also of another bit that does not count: of the one's key, and of the other's point on its way.
func TestWhatTwoMakeIsOneWithIdleBits(t *testing.T) {
	a, b := someBytes(32), allBytes()[100:132]
	want, ok := impl.Agreed(b, impl.Public(a))
	if !ok {
		t.Fatal("there is none")
	}
	for _, key := range withIdleBits(a) {
		checkAgreed(t, key, impl.Public(b), want)
		checkAgreed(t, key, withTop(impl.Public(b)), want)
		checkAgreed(t, b, impl.Public(key), want)
	}
}

// It is one at any point, not at 9 alone, and in whatever order.
func TestWhatTwoMakeIsOneAtAnyPoint(t *testing.T) {
	from := rand.New(rand.NewSource(99))
	points := append(edgePoints(), noughtPoints(t)...)
	for range 20 {
		points = append(points, meant(oftenEdgy(from)))
	}
	for _, point := range points {
		for range 3 {
			a, b, u := oftenEdgy(from), oftenEdgy(from), thirtyTwo(point)
			one, other := impl.Point(a, impl.Point(b, u)), impl.Point(b, impl.Point(a, u))
			if len(one) != 32 || !bytes.Equal(one, other) {
				t.Fatalf("of the keys %x and %x at %x: %x and %x", a, b, u, one, other)
			}
		}
	}
}

// Who has neither key makes something else.
func TestAThirdMakesAnother(t *testing.T) {
	from := rand.New(rand.NewSource(999))
	for range 30 {
		a, b, c := oftenEdgy(from), oftenEdgy(from), oftenEdgy(from)
		if bytes.Equal(impl.Clamp(a), impl.Clamp(c)) || bytes.Equal(impl.Clamp(b), impl.Clamp(c)) {
			continue
		}
		want, _ := impl.Agreed(a, impl.Public(b))
		for _, point := range [][]byte{impl.Public(a), impl.Public(b)} {
			if got, ok := impl.Agreed(c, point); !ok || bytes.Equal(got, want) {
				t.Fatalf("the key %x makes what %x and %x make: %x, %t", c, a, b, got, ok)
			}
		}
	}
}

func TestIdleBitsOfKeysTurnNothing(t *testing.T) {
	for _, k := range [][]byte{make([]byte, 32), ones32(), someBytes(32)} {
		for _, u := range [][]byte{impl.FieldNum(9), thirtyTwo(power(255, 1)), allBytes()[60:92]} {
			want := libraryPoint(t, k, u)
			for _, key := range withIdleBits(k) {
				if got := impl.Point(key, u); !bytes.Equal(got, want) {
					t.Fatalf("Point(%x, %x) = %x, want %x", key, u, got, want)
				}
				checkAgreed(t, key, u, want)
			}
		}
		want := impl.Public(k)
		for _, key := range append(withIdleBits(k), impl.Clamp(k)) {
			if got := impl.Public(key); !bytes.Equal(got, want) {
				t.Fatalf("Public(%x) = %x, want %x", key, got, want)
			}
		}
	}
}

// The 251 others all count.
func TestEachOtherBitOfAKeyCounts(t *testing.T) {
	k := someBytes(32)
	seen := map[string]int{impl.Hex(impl.Public(k)): -1}
	for bit := 3; bit < 254; bit++ {
		key := bent(k, bit/8, 1<<(bit%8))
		checkPoint(t, key, impl.FieldNum(9))
		point := impl.Hex(impl.Public(key))
		if other, ok := seen[point]; ok {
			t.Fatalf("with the bit %d another the point is that of %d", bit, other)
		}
		seen[point] = bit
	}
}

func TestTheHighestBitOfAPointTurnsNothing(t *testing.T) {
	for _, k := range [][]byte{make([]byte, 32), ones32(), someBytes(32)} {
		for _, point := range append(edgePoints(), noughtPoints(t)...) {
			want := libraryPoint(t, k, thirtyTwo(point))
			for _, u := range bothTops(point) {
				if got := impl.Point(k, u); !bytes.Equal(got, want) {
					t.Fatalf("Point(%x, %x) = %x, want %x", k, u, got, want)
				}
				checkAgreed(t, k, u, want)
			}
		}
	}
}

// Each other bit of a point counts.
func TestEachOtherBitOfAPointCounts(t *testing.T) {
	k, u := someBytes(32), thirtyTwo(meant(allBytes()[130:162]))
	ahead := impl.Point(k, u)
	for bit := range 255 {
		other := bent(u, bit/8, 1<<(bit%8))
		checkPoint(t, k, other)
		if bytes.Equal(impl.Point(k, other), ahead) {
			t.Fatalf("the bit %d of a point turns nothing", bit)
		}
	}
}

// What is P and more means what is left by P.
func TestPointsByP(t *testing.T) {
	for _, k := range edgeKeys()[:4] {
		for past := range int64(19) {
			want := impl.Point(k, impl.FieldNum(int(past)))
			for _, u := range bothTops(fromP(past)) {
				if got := impl.Point(k, u); !bytes.Equal(got, want) {
					t.Fatalf("Point(%x, %x) = %x, want %x", k, u, got, want)
				}
				checkPoint(t, k, u)
			}
		}
	}
}

// Of these points every key makes 0, and Agreed so tells nothing.
func TestAgreedOfNought(t *testing.T) {
	for _, k := range edgeKeys() {
		for _, point := range noughtPoints(t) {
			for _, u := range bothTops(point) {
				if got := impl.Point(k, u); !bytes.Equal(got, make([]byte, 32)) {
					t.Fatalf("Point(%x, %x) = %x, want 32 bytes 0", k, u, got)
				}
				if got, ok := impl.Agreed(k, u); ok || len(got) != 0 {
					t.Fatalf("Agreed(%x, %x) = %x, %t, want nothing and false", k, u, got, ok)
				}
			}
		}
	}
}

// Those beside them, and the others at the edges, make something.
func TestAgreedOfAllButNought(t *testing.T) {
	for _, k := range edgeKeys() {
		for _, point := range edgePoints() {
			u := thirtyTwo(point)
			checkPoint(t, k, u)
			if got, ok := impl.Agreed(k, u); !ok || len(got) != 32 {
				t.Fatalf("Agreed(%x, %x) = %x, %t, want 32 bytes and true", k, u, got, ok)
			}
		}
	}
}

func TestPointsOfMany(t *testing.T) {
	from := rand.New(rand.NewSource(9999))
	for range 1000 {
		checkPoint(t, oftenEdgy(from), oftenEdgy(from))
	}
}

func TestPublic(t *testing.T) {
	from := rand.New(rand.NewSource(99999))
	keys := edgeKeys()
	for range 200 {
		keys = append(keys, oftenEdgy(from))
	}
	for _, k := range keys {
		key, err := ecdh.X25519().NewPrivateKey(k)
		if err != nil {
			t.Fatal(err)
		}
		if got, want := impl.Public(k), key.PublicKey().Bytes(); !bytes.Equal(got, want) {
			t.Errorf("Public(%x) = %x, want %x", k, got, want)
		}
	}
}

// checkNoPoint holds Point and Agreed to nothing.
func checkNoPoint(t *testing.T, k, u []byte) {
	t.Helper()
	if got := impl.Point(k, u); len(got) != 0 {
		t.Errorf("Point of %d and %d bytes = %x, want nothing", len(k), len(u), got)
	}
	if got, ok := impl.Agreed(k, u); ok || len(got) != 0 {
		t.Errorf("Agreed of %d and %d bytes = %x, %t, want nothing and false", len(k), len(u), got, ok)
	}
}

func TestPointOfOtherSizes(t *testing.T) {
	right := someBytes(32)
	for many := range 100 {
		if many == 32 {
			continue
		}
		for _, wrong := range soManyBytes(many) {
			for _, c := range [][2][]byte{{wrong, right}, {right, wrong}, {wrong, wrong}, {nil, wrong}, {wrong, nil}} {
				checkNoPoint(t, c[0], c[1])
			}
			if got := impl.Clamp(wrong); len(got) != 0 {
				t.Errorf("Clamp of %d bytes = %x, want nothing", many, got)
			}
			if got := impl.Public(wrong); len(got) != 0 {
				t.Errorf("Public of %d bytes = %x, want nothing", many, got)
			}
		}
	}
	if len(impl.Clamp(nil)) != 0 || len(impl.Public(nil)) != 0 {
		t.Error("Clamp or Public of nil is not nothing")
	}
	for _, c := range [][2][]byte{{nil, nil}, {nil, right}, {right, nil}, {{}, {}}, {someBytes(31), someBytes(33)}, {someBytes(33), someBytes(31)}, {nil, someBytes(64)}, {someBytes(64), nil}} {
		checkNoPoint(t, c[0], c[1])
	}
}

func TestPointOfManyAtATime(t *testing.T) {
	a, b := someBytes(32), allBytes()[200:232]
	want := libraryPoint(t, a, impl.Public(b))
	var all sync.WaitGroup
	for range 16 {
		all.Go(func() {
			for range 10 {
				one, first := impl.Agreed(a, impl.Public(b))
				other, second := impl.Agreed(b, impl.Public(a))
				if !first || !second || !bytes.Equal(one, want) || !bytes.Equal(other, want) {
					t.Errorf("two make %x, %t and %x, %t, want %x", one, first, other, second, want)
				}
			}
		})
	}
	all.Wait()
}

func TestPointLeavesItsArgumentsAlone(t *testing.T) {
	// Bytes 255, of which bits do not count and of which P is taken away, and such as mean 0; with room behind them.
	backing := slices.Concat(bytes.Repeat([]byte{255}, 100), make([]byte, 100), someBytes(100))
	kept := bytes.Clone(backing)
	for _, many := range []int{0, 31, 32, 33} {
		for _, k := range [][]byte{backing[:many], backing[100 : 100+many], backing[200 : 200+many]} {
			for _, u := range [][]byte{backing[40 : 40+many], backing[140 : 140+many], backing[240 : 240+many], backing[:32], k} {
				impl.Point(k, u)
				impl.Agreed(k, u)
				impl.Point(u, k)
				impl.Agreed(u, k)
			}
			impl.Clamp(k)
			impl.Public(k)
		}
	}
	if !bytes.Equal(backing, kept) {
		t.Errorf("bytes turned into %x", backing)
	}
}

func TestPointAnswersAnewEachTime(t *testing.T) {
	k, u := impl.Clamp(someBytes(32)), impl.FieldNum(9)
	keptKey := bytes.Clone(k)
	for name, ask := range map[string]func() []byte{
		"Clamp":         func() []byte { return impl.Clamp(k) },
		"Point":         func() []byte { return impl.Point(k, u) },
		"Point at 0":    func() []byte { return impl.Point(k, make([]byte, 32)) },
		"Point of both": func() []byte { return impl.Point(k, k) },
		"Public":        func() []byte { return impl.Public(k) },
		"Agreed":        func() []byte { answer, _ := impl.Agreed(k, u); return answer },
	} {
		checkAnew(t, name, ask)
		if !bytes.Equal(k, keptKey) || !bytes.Equal(u, thirtyTwo(big.NewInt(9))) {
			t.Fatalf("%s shares memory with what it was given", name)
		}
	}
}
