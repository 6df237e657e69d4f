package tests

import (
	"bytes"
	"encoding/hex"
	"math"
	"math/rand"
	"slices"
	"sync"
	"testing"

	"loop.example/g00473/impl"
)

var (
	keyEpochs = []int{0, 1, 39, impl.MaxEpoch}
	// noKeyEpochs are beside the limits; what is left of some of them in one byte, in two or in four would be an epoch.
	noKeyEpochs = []int{-1, -2, -40, -41, -216, -256, -65496, -65535, -65536, -1 << 32, math.MinInt, math.MinInt + 40, 41, 42, 64, 127, 128, 255, 256, 257, 296, 65535, 65536, 65537, 65576, 1 << 24, 1 << 32, 1<<32 + 1, math.MaxInt}
	// noSeedSizes are how many bytes there are of seeds that are none.
	noSeedSizes = []int{0, 1, 8, 16, 30, 31, 33, 34, 63, 64, 65, 400, 401, maxMac, maxMac + 1, impl.MaxHash, impl.MaxHash + 1, 70000}
)

// epochText is what a key or a route is made of; it knows no limits.
func epochText(word string, epoch int) []byte {
	return append([]byte(word), byte(epoch>>8), byte(epoch))
}

// epochKeys are what a seed has at an epoch.
type epochKeys struct{ secret, public, route string }

// keysAt are as the program answers them.
func keysAt(seed []byte, epoch int) epochKeys {
	return epochKeys{string(impl.SecretOf(seed, epoch)), string(impl.PublicOf(seed, epoch)), impl.RouteOf(seed, epoch)}
}

// libraryKeysAt are SecretOf, PublicOf and RouteOf once more, by the library; they know no limits.
func libraryKeysAt(t *testing.T, seed []byte, epoch int) epochKeys {
	t.Helper()
	secret := expandOf(t, extractOf(t, nil, seed), epochText("epoch", epoch), 32)
	route := hex.EncodeToString(macOf(seed, epochText("route", epoch))[:8])
	return epochKeys{string(secret), string(publicPoint(t, secret)), route}
}

func checkEpoch(t *testing.T, seed []byte, epoch int) {
	t.Helper()
	if got, want := keysAt(seed, epoch), libraryKeysAt(t, seed, epoch); got != want {
		t.Fatalf("of %x and epoch %d there are %x, want %x", seed, epoch, got, want)
	}
}

func checkNoKeys(t *testing.T, what string, seed []byte, epoch int) {
	t.Helper()
	if got := keysAt(seed, epoch); got != (epochKeys{}) {
		t.Fatalf("%s: of %x and epoch %d there are %x, want nothing", what, seed, epoch, got)
	}
}

// epochsOf are all that there are, as the order has them.
func epochsOf(order func(i int) int) []int {
	list := make([]int, impl.MaxEpoch+1)
	for i := range list {
		list[i] = order(i)
	}
	return list
}

// The bytes are those that another program makes of the same seeds and epochs.
func TestKeysThatChange(t *testing.T) {
	for _, c := range []struct {
		seed                  []byte
		epoch                 int
		secret, public, route string
	}{
		{alike(3), 0, "e2535b2483e69f44353d7de6b3888df13fc0f7f2389b1af4c4866c664f94bb62", "46e2b8db89378d0108e04af051fdb59fc3d4957b316041ac7ae0a144bcb3ed56", "4bf925c2a0d288e2"},
		{alike(3), 1, "0f46a4b6174750b71232f66c2822bccaacbd50f64a6e6b4131d195e54aa80b83", "cc782ed6ab3a7597d740a606b3817cb31d8027422793c02da4b65a56cca00642", "bc0037b047ac4a79"},
		{alike(3), 39, "26228283780910ba8af8a2e3b64e760d5f7f798e304479dabcf321770d04669b", "d5f9b8c371de648e0ab265e18e630705857a50a12074a67207e6e4f0486ae205", "fab7351767a2c1f9"},
		{alike(3), 40, "776945a223bb51ba00cf30ca8bad6bebbe3ccbe75f1b3234971f6f98a2f42059", "e60ba5369b1fbef6b683d362f1a118ebb561f37ca205edf17bcc55e7eee80760", "9c8d2d4b1e5022c0"},
		{alike(0), 0, "6b1613cbd9cdc4679b993e3f98806b076d0f5a0a54cb9367a004c56bed658f8c", "15093e82e8a70a5e440679cb84ca698a7379c2110cce78f8fa3a6a622ed09551", "a754439041f6b6fb"},
		{alike(0), 40, "6399318d8914ac9edf6f637585bd3d722597484fb0802b086e1c411fc0acdc59", "4f2ddcd3375a09efc3d1ad42f640a091dac0ddef0e920328dcb7e10f361a094d", "884571a79bf2514a"},
		{allBytes()[:32], 0, "be183f1541b5aa019b108dde5d9e6529f56d451001ac8577da523ebdab755170", "d5513fb2ecdf458349f7d32d70e9882f751763ebf861b15f8c46cab9318e2a11", "46d68b1f956e5778"},
		{allBytes()[:32], 40, "706bd7a8f543cb3bd7fe204f0c93087e5e2707b593192f4219fc5ddde1767972", "67bb27f257746938bec354404b5f840093cd8e584e6933266c455c6e9e0afe59", "a35abdab1d42d734"},
		{alike(255), 0, "dc4356c7eef8694e86ff51cea4f028c7bb5fb9c632385aac39d90e38705b484f", "eccaf0ceb03e9a1e4d9e4062c180c8a26c65cf0b055fd2a18f293d3184e39637", "72579b0089934374"},
		{alike(255), 40, "353c49f448f00971cf730596d98b3fba5cd7d6d95355a48a00e1b31237b0529f", "faf8a45781b34e066bba8496d67662bed9c20c1253ddbd86fb4130458592d917", "643386ee1521f6a4"},
	} {
		want := epochKeys{string(unhexed(t, c.secret)), string(unhexed(t, c.public)), c.route}
		if got := keysAt(c.seed, c.epoch); got != want {
			t.Errorf("of %x and epoch %d there are %x, want %x", c.seed, c.epoch, got, want)
		}
	}
}

func TestKeysOfManySeedsAtAllEpochs(t *testing.T) {
	from := rand.New(rand.NewSource(12))
	seeds := append(edgeKeys(), oftenEdgy(from), oftenEdgy(from), oftenEdgy(from))
	for _, seed := range seeds {
		for epoch := range impl.MaxEpoch + 1 {
			checkEpoch(t, seed, epoch)
		}
	}
}

// Promise 12: there is one key and one route, however often and in which order they are asked for.
func TestOfEachSeedAndEpochThereIsOne(t *testing.T) {
	seed := someBytes(32)
	first := make([]epochKeys, impl.MaxEpoch+1)
	for epoch := range first {
		first[epoch] = keysAt(seed, epoch)
	}
	for _, order := range [][]int{
		epochsOf(func(i int) int { return i }),
		epochsOf(func(i int) int { return impl.MaxEpoch - i }),
		epochsOf(func(i int) int { return i * 17 % (impl.MaxEpoch + 1) }),
		epochsOf(func(int) int { return 7 }),
	} {
		for _, epoch := range order {
			// Between two that are right: another seed, and what there is nothing of.
			checkEpoch(t, alike(byte(epoch)), epoch)
			checkNoKeys(t, "another epoch", seed, epoch+impl.MaxEpoch+1)
			checkNoKeys(t, "the seed's beginning", seed[:31], epoch)
			if got := keysAt(bytes.Clone(seed), epoch); got != first[epoch] {
				t.Fatalf("at epoch %d, asked again, there are %x, want %x", epoch, got, first[epoch])
			}
		}
	}
}

// checkUnlike holds that no two of all seeds and epochs have a key or a route in common, and that no route is how a key begins.
func checkUnlike(t *testing.T, seeds [][]byte) {
	t.Helper()
	seen := map[string]bool{}
	for _, seed := range seeds {
		for epoch := range impl.MaxEpoch + 1 {
			secret, route := impl.SecretOf(seed, epoch), impl.RouteOf(seed, epoch)
			if len(secret) != 32 || len(route) != 16 {
				t.Fatalf("of %x and epoch %d a key has %d bytes, a route %d signs", seed, epoch, len(secret), len(route))
			}
			// Clamped, as two that are one then would be one key.
			for _, s := range []string{string(impl.Clamp(secret)), impl.Hex(secret[:8]), route} {
				if seen[s] {
					t.Fatalf("at epoch %d of %x there is %x once more", epoch, seed, s)
				}
				seen[s] = true
			}
		}
	}
}

func TestNoTwoEpochsHaveOne(t *testing.T) {
	for _, seed := range [][]byte{alike(0), alike(1), alike(255), someBytes(32), allBytes()[:32]} {
		checkUnlike(t, [][]byte{seed})
		points := map[string]bool{}
		for epoch := range impl.MaxEpoch + 1 {
			points[string(impl.PublicOf(seed, epoch))] = true
		}
		if len(points) != impl.MaxEpoch+1 {
			t.Errorf("of %x there are %d points", seed, len(points))
		}
	}
}

func TestTwoSeedsHaveNoneInCommon(t *testing.T) {
	checkUnlike(t, [][]byte{alike(1), alike(2)})
	seed := someBytes(32)
	seeds := [][]byte{seed, alike(0), alike(255), impl.SecretOf(seed, 0), impl.PublicOf(seed, 0)}
	for bit := range 256 {
		seeds = append(seeds, bent(seed, bit/8, 1<<(bit%8)))
	}
	checkUnlike(t, seeds)
}

func TestNoKeysOfEpochsThatAreNone(t *testing.T) {
	for _, seed := range [][]byte{alike(0), alike(3), alike(255), someBytes(32)} {
		for _, epoch := range noKeyEpochs {
			checkNoKeys(t, "an epoch that is none", seed, epoch)
		}
		for epoch := -300; epoch < 66000; epoch++ {
			if (epoch < 0 || epoch > impl.MaxEpoch) && (len(impl.SecretOf(seed, epoch)) != 0 || impl.RouteOf(seed, epoch) != "") {
				t.Fatalf("of epoch %d there is a key or a route", epoch)
			}
		}
		for _, epoch := range keyEpochs {
			checkEpoch(t, seed, epoch)
		}
	}
}

func TestNoKeysOfSeedsThatAreNone(t *testing.T) {
	for _, epoch := range slices.Concat(keyEpochs, noKeyEpochs) {
		checkNoKeys(t, "nil", nil, epoch)
		for _, many := range noSeedSizes {
			checkNoKeys(t, "a seed of another size", someBytes(many), epoch)
			checkNoKeys(t, "bytes 0 of another size, with room behind", make([]byte, many, many+32), epoch)
		}
	}
	seed := someBytes(64)
	checkNoKeys(t, "one byte less, with room behind", seed[:31], 0)
	checkNoKeys(t, "one byte more", seed[:33], 0)
	checkEpoch(t, seed[:32], 0)
}

func TestCurrentAtTheEdges(t *testing.T) {
	for _, c := range []struct {
		epoch, other int
		want         bool
	}{
		{0, 0, true}, {0, -1, false}, {0, 1, false}, {0, -2, false},
		{1, 1, true}, {1, 0, true}, {1, 2, false}, {1, -1, false},
		{39, 39, true}, {39, 38, true}, {39, 40, false}, {39, 37, false},
		{40, 40, true}, {40, 39, true}, {40, 41, false}, {40, 38, false},
		{41, 41, false}, {41, 40, false}, {41, 42, false}, {41, 39, false},
		{-1, -1, false}, {-1, -2, false}, {-1, 0, false},
		{65536, 65536, false}, {65536, 65535, false}, {65536, 0, false}, {0, 65536, false}, {40, 0, false}, {0, 40, false},
		{math.MinInt, math.MaxInt, false}, {math.MinInt, math.MinInt, false}, {math.MaxInt, math.MaxInt, false}, {math.MaxInt, math.MaxInt - 1, false}, {math.MaxInt, math.MinInt, false},
	} {
		if got := impl.Current(c.epoch, c.other); got != c.want {
			t.Errorf("Current(%d, %d) = %t", c.epoch, c.other, got)
		}
	}
}

// Of each epoch that there is, itself and the one ahead of it are current, where there is one; of all others none is.
func TestCurrentOfEachTwo(t *testing.T) {
	around := slices.Clone(noKeyEpochs)
	for epoch := -50; epoch < 100; epoch++ {
		around = append(around, epoch)
	}
	for _, epoch := range around {
		current := map[int]bool{}
		if slices.Contains(epochsOf(func(i int) int { return i }), epoch) {
			current[epoch], current[epoch-1] = true, epoch > 0
		}
		for _, other := range append(around, epoch-2, epoch-1, epoch, epoch+1, epoch+2) {
			if got := impl.Current(epoch, other); got != current[other] {
				t.Fatalf("Current(%d, %d) = %t", epoch, other, got)
			}
		}
	}
}

// What is written for a point of a seed's is read by the secret of the same epoch, and by no other.
func TestLettersByKeysThatChange(t *testing.T) {
	seed, note := someBytes(32), []byte("a note")
	for epoch := range impl.MaxEpoch + 1 {
		mine := alike(byte(100 + epoch))
		l := checkWritten(t, mine, impl.PublicOf(seed, epoch), epoch, note)
		checkRead(t, impl.SecretOf(seed, epoch), l, note)
		checkNotRead(t, "by another seed's", impl.SecretOf(alike(1), epoch), l)
		for _, other := range []int{epoch - 1, epoch + 1, impl.MaxEpoch - epoch} {
			if other != epoch {
				checkNotRead(t, "by the key of another epoch", impl.SecretOf(seed, other), l)
			}
		}
	}
	for _, epoch := range noKeyEpochs {
		checkNotWritten(t, "for an epoch that is none", alike(1), impl.PublicOf(seed, epoch), 0, note)
		checkNotRead(t, "by an epoch that is none", impl.SecretOf(seed, epoch), letterOf(t, alike(1), publicPoint(t, alike(2)), 0, note))
	}
}

func TestKeysAnswerAnewEachTime(t *testing.T) {
	seed := someBytes(32)
	for _, epoch := range keyEpochs {
		checkAnew(t, "SecretOf", func() []byte { return impl.SecretOf(seed, epoch) })
		checkAnew(t, "PublicOf", func() []byte { return impl.PublicOf(seed, epoch) })
		checkAnew(t, "PublicOf behind SecretOf", func() []byte { clear(impl.SecretOf(seed, epoch)); return impl.PublicOf(seed, epoch) })
		checkAnew(t, "SecretOf of none", func() []byte { return impl.SecretOf(seed, epoch-41) })
		if !bytes.Equal(seed, someBytes(32)) {
			t.Fatal("an answer shares memory with the seed")
		}
		checkEpoch(t, seed, epoch)
	}
	checkApart(t, "SecretOf and SecretOf", impl.SecretOf(seed, 1), impl.SecretOf(seed, 1))
	checkApart(t, "SecretOf and PublicOf", impl.SecretOf(seed, 1), impl.PublicOf(seed, 1))
}

// The bytes of a seed count as they are when it is asked, whatever they were or will be.
func TestASeedThatChangesBehindACall(t *testing.T) {
	seed, epoch := alike(1), 5
	secret, public, route := impl.SecretOf(seed, epoch), impl.PublicOf(seed, epoch), impl.RouteOf(seed, epoch)
	first := epochKeys{string(secret), string(public), route}
	for place := range seed {
		seed[place] ^= 255
		checkEpoch(t, seed, epoch)
		if keysAt(seed, epoch) == first {
			t.Fatalf("with the byte %d changed the keys are the same", place)
		}
		if got := (epochKeys{string(secret), string(public), route}); got != first {
			t.Fatalf("with the byte %d changed what was answered is %x, want %x", place, got, first)
		}
		seed[place] ^= 255
		if got := keysAt(seed, epoch); got != first {
			t.Fatalf("with the byte %d as it was there are %x, want %x", place, got, first)
		}
	}
	copy(seed, alike(2))
	if got := keysAt(seed, epoch); got != keysAt(alike(2), epoch) {
		t.Errorf("of a seed written over there are %x", got)
	}
}

func TestKeysLeaveTheirSeedsAlone(t *testing.T) {
	backing := someBytes(200)
	for _, epoch := range slices.Concat(keyEpochs, noKeyEpochs) {
		for _, many := range []int{0, 31, 32, 33, 64} {
			keysAt(backing[:many], epoch)
			keysAt(backing[50:50+many], epoch)
		}
	}
	if !bytes.Equal(backing, someBytes(200)) {
		t.Errorf("bytes turned into %x", backing)
	}
}

func TestKeysOfManyAtATime(t *testing.T) {
	one, two := alike(1), alike(2)
	want := map[byte][]epochKeys{}
	for _, seed := range [][]byte{one, two} {
		for epoch := range impl.MaxEpoch + 1 {
			want[seed[0]] = append(want[seed[0]], libraryKeysAt(t, seed, epoch))
		}
	}
	var all sync.WaitGroup
	for i := range 16 {
		all.Go(func() {
			for _, epoch := range epochsOf(func(j int) int { return (i*5 + j*(1+i%3)) % (impl.MaxEpoch + 1) }) {
				for _, seed := range [][]byte{one, two} {
					if got := keysAt(seed, epoch); got != want[seed[0]][epoch] {
						t.Errorf("of %x and epoch %d there are %x, want %x", seed, epoch, got, want[seed[0]][epoch])
					}
				}
				if got := keysAt(one, epoch-41); got != (epochKeys{}) {
					t.Errorf("of epoch %d there are %x", epoch-41, got)
				}
			}
		})
	}
	all.Wait()
}
