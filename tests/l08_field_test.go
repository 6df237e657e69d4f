package tests

import (
	"bytes"
	"math"
	"math/big"
	"math/rand"
	"slices"
	"sync"
	"testing"

	"loop.example/g00473/impl"
)

// fieldP is 2 to the 255th less 19.
func fieldP() *big.Int { return power(255, 19) }

func fromP(past int64) *big.Int { return new(big.Int).Add(fieldP(), big.NewInt(past)) }

// thirtyTwo are the bytes of a number from 0 to 2 to the 256th less 1, little, as it is.
func thirtyTwo(n *big.Int) []byte {
	b := n.FillBytes(make([]byte, 32))
	slices.Reverse(b)
	return b
}

// leftByP is what is to be answered of a number, which may be below 0.
func leftByP(n *big.Int) []byte { return thirtyTwo(new(big.Int).Mod(n, fieldP())) }

// meant is the number that 32 bytes mean, without their highest bit, not yet by P.
func meant(b []byte) *big.Int { return new(big.Int).Mod(littleNumber(b), power(255, 0)) }

// withTop is b with the highest bit of its last byte set, which means the same.
func withTop(b []byte) []byte {
	other := bytes.Clone(b)
	other[31] |= 128
	return other
}

func bothTops(n *big.Int) [][]byte { return [][]byte{thirtyTwo(n), withTop(thirtyTwo(n))} }

// fieldEdges stand around 0, P, the highest number that the bytes have, and the borders of bytes, words and greater parts.
func fieldEdges() []*big.Int {
	var list []*big.Int
	for n := range int64(3) {
		list = append(list, big.NewInt(n))
	}
	for _, n := range []int64{18, 19, 20, 37, 38, 39, 121665} {
		list = append(list, big.NewInt(n), fromP(-n))
	}
	for past := int64(-2); past <= 18; past++ {
		list = append(list, fromP(past))
	}
	for _, bit := range []uint{8, 31, 32, 51, 63, 64, 65, 96, 127, 128, 129, 160, 191, 192, 193, 204, 224, 248, 253, 254} {
		list = append(list, power(bit, 0), power(bit, 1), power(bit, 9), power(bit, 10), new(big.Int).Sub(power(255, 1), power(bit, 0)))
	}
	return list
}

// fieldTwo are the functions of two numbers, and what they are of numbers without a border.
var fieldTwo = []struct {
	name string
	got  func(a, b []byte) []byte
	want func(a, b *big.Int) *big.Int
}{
	{"FieldAdd", impl.FieldAdd, func(a, b *big.Int) *big.Int { return new(big.Int).Add(a, b) }},
	{"FieldSub", impl.FieldSub, func(a, b *big.Int) *big.Int { return new(big.Int).Sub(a, b) }},
	{"FieldMul", impl.FieldMul, func(a, b *big.Int) *big.Int { return new(big.Int).Mul(a, b) }},
}

func checkField(t *testing.T, what string, got []byte, want *big.Int) {
	t.Helper()
	if !bytes.Equal(got, leftByP(want)) {
		t.Fatalf("%s = %x, want %x", what, got, leftByP(want))
	}
}

func checkTwo(t *testing.T, a, b []byte) {
	t.Helper()
	for _, f := range fieldTwo {
		if got, want := f.got(a, b), leftByP(f.want(meant(a), meant(b))); !bytes.Equal(got, want) {
			t.Fatalf("%s(%x, %x) = %x, want %x", f.name, a, b, got, want)
		}
	}
}

// checkInverse holds what makes 1 with a against the promise itself, and against numbers without a border.
func checkInverse(t *testing.T, a []byte) {
	t.Helper()
	got := impl.FieldInv(a)
	left := new(big.Int).Mod(meant(a), fieldP())
	if left.Sign() == 0 {
		checkField(t, "FieldInv of 0", got, left)
		return
	}
	checkField(t, "FieldInv of "+impl.Hex(a), got, new(big.Int).ModInverse(left, fieldP()))
	checkField(t, impl.Hex(a)+" times what makes 1 with it", impl.FieldMul(a, got), big.NewInt(1))
	checkField(t, "what makes 1 with "+impl.Hex(a)+", times it", impl.FieldMul(got, a), big.NewInt(1))
}

// oftenEdgy fills 32 bytes at random, or in parts of few kinds, which come to carries that random ones hardly come to.
func oftenEdgy(from *rand.Rand) []byte {
	b := make([]byte, 32)
	from.Read(b)
	kinds := []byte{0, 0, 255, 255, 1, 19, 38, 127, 128, 237, 254}
	switch from.Intn(3) {
	case 0:
		for i := range b {
			b[i] = kinds[from.Intn(len(kinds))]
		}
	case 1:
		for at := 0; at < len(b); at += 8 {
			fill := kinds[from.Intn(len(kinds))]
			for i := at; i < at+8; i++ {
				b[i] = fill
			}
		}
	}
	return b
}

// Numbers that were published with the curves (RFC 7748, 4.1; RFC 8032, 5.1), from which others were made by sums, products and inverses.
func TestFieldOfPublishedNumbers(t *testing.T) {
	number := func(digits string) []byte {
		n, ok := new(big.Int).SetString(digits, 10)
		if !ok {
			t.Fatal(digits)
		}
		return thirtyTwo(n)
	}
	same := func(what string, got, want []byte) {
		t.Helper()
		if !bytes.Equal(got, want) {
			t.Errorf("%s: %x, want %x", what, got, want)
		}
	}
	num, mul, add := impl.FieldNum, impl.FieldMul, impl.FieldAdd
	below := impl.FieldSub(num(0), num(121665))
	d := number("37095705934669439343138083508754565189542113879843219016388785533085940283555")
	same("121665 less than 0, by 121666", mul(below, impl.FieldInv(num(121666))), d)
	y := number("46316835694926478169428394003475163141307993866256225615783033603165251855960")
	same("4 by 5", mul(num(4), impl.FieldInv(num(5))), y)
	x := number("15112221349535400772501151409588531511454012693041857206046113283949847762202")
	xx, yy := mul(x, x), mul(y, y)
	same("a point", impl.FieldSub(yy, xx), add(num(1), mul(d, mul(xx, yy))))
	v := number("14781619447589544791020593568409986887264606134616475288964881837755586237401")
	u := num(9)
	uu := mul(u, u)
	same("another one", mul(v, v), add(add(mul(uu, u), mul(num(486662), uu)), u))
	same("from one to the other", mul(add(num(1), y), impl.FieldInv(impl.FieldSub(num(1), y))), u)
	root := unhexed(t, "b0a00e4a271beec478e42fad0618432fa7d7fb3d99004d2b0bdfc14f8024832b")
	same("the square of a root of 1 less than 0", mul(root, root), impl.FieldSub(num(0), num(1)))
	same("a half", impl.FieldInv(num(2)), thirtyTwo(power(254, 9)))
}

func TestFieldOf(t *testing.T) {
	for _, c := range []struct {
		n    *big.Int
		want *big.Int
	}{
		{big.NewInt(0), big.NewInt(0)},
		{big.NewInt(1), big.NewInt(1)},
		{fromP(-2), fromP(-2)},
		{fromP(-1), fromP(-1)},
		{fromP(0), big.NewInt(0)},
		{fromP(1), big.NewInt(1)},
		{fromP(17), big.NewInt(17)},
		{fromP(18), big.NewInt(18)},
		{power(255, 1), big.NewInt(18)},
	} {
		for _, b := range bothTops(c.n) {
			if got := impl.FieldOf(b); !bytes.Equal(got, thirtyTwo(c.want)) {
				t.Errorf("FieldOf(%x) = %x, want %x", b, got, thirtyTwo(c.want))
			}
		}
	}
	for _, n := range fieldEdges() {
		for _, b := range bothTops(n) {
			got := impl.FieldOf(b)
			checkField(t, "FieldOf of "+impl.Hex(b), got, n)
			checkField(t, "FieldOf of FieldOf of "+impl.Hex(b), impl.FieldOf(got), n)
		}
	}
}

// Each bit by itself, and each one missing, is where it was; but for the highest, which is left away.
func TestFieldOfEachBit(t *testing.T) {
	for bit := range uint(256) {
		one := power(bit, 0)
		missing := new(big.Int).Sub(power(256, 1), one)
		if bit == 255 {
			checkField(t, "FieldOf of the highest bit", impl.FieldOf(thirtyTwo(one)), big.NewInt(0))
			checkField(t, "FieldOf of all bits but the highest", impl.FieldOf(thirtyTwo(missing)), big.NewInt(18))
			continue
		}
		checkField(t, "FieldOf of one bit", impl.FieldOf(thirtyTwo(one)), one)
		checkField(t, "FieldOf of all bits but one", impl.FieldOf(thirtyTwo(missing)), new(big.Int).Sub(power(255, 1), one))
	}
}

func TestFieldNum(t *testing.T) {
	numbers := []int{0, 1, 2, 9, 18, 19, 38, 255, 256, 257, 121665, 999999, math.MaxInt32, math.MaxInt32 + 1, math.MaxUint32, math.MaxUint32 + 1, math.MaxInt - 1, math.MaxInt}
	for bit := range 63 {
		numbers = append(numbers, 1<<bit, 1<<bit-1)
	}
	for _, n := range numbers {
		checkField(t, "FieldNum of "+impl.Digits(n), impl.FieldNum(n), big.NewInt(int64(n)))
	}
	for _, n := range []int{-1, -2, -18, -19, -256, math.MinInt32, -math.MaxInt, math.MinInt + 1, math.MinInt} {
		checkField(t, "FieldNum of "+impl.Digits(n), impl.FieldNum(n), big.NewInt(0))
	}
	if got := impl.Hex(impl.FieldNum(math.MaxInt)); got != "ffffffffffffff7f000000000000000000000000000000000000000000000000" {
		t.Errorf("FieldNum of the greatest int = %s", got)
	}
}

// Promise 8: sums and products are as they are of numbers, also of those that are not below P, and with a bit that is left away.
func TestFieldSumsAndProductsOfEdges(t *testing.T) {
	edges := fieldEdges()
	for _, x := range edges {
		for _, y := range edges {
			checkTwo(t, thirtyTwo(x), thirtyTwo(y))
			checkTwo(t, withTop(thirtyTwo(x)), thirtyTwo(y))
			checkTwo(t, thirtyTwo(x), withTop(thirtyTwo(y)))
			checkTwo(t, withTop(thirtyTwo(x)), withTop(thirtyTwo(y)))
		}
	}
}

func TestFieldSumsAndProductsOfMany(t *testing.T) {
	from := rand.New(rand.NewSource(8))
	for range 20000 {
		checkTwo(t, oftenEdgy(from), oftenEdgy(from))
	}
}

// Sums that are just P, or twice P, and those around them.
func TestFieldSumsAroundP(t *testing.T) {
	from := rand.New(rand.NewSource(8))
	firsts := append(fieldEdges(), meant(oftenEdgy(from)), meant(oftenEdgy(from)), meant(oftenEdgy(from)))
	for _, x := range firsts {
		for past := int64(-20); past <= 20; past++ {
			for _, p := range []*big.Int{fieldP(), new(big.Int).Lsh(fieldP(), 1)} {
				y := new(big.Int).Sub(new(big.Int).Add(p, big.NewInt(past)), x)
				if y.Sign() < 0 || y.Cmp(power(255, 1)) > 0 {
					continue
				}
				checkField(t, "a sum around P", impl.FieldAdd(thirtyTwo(x), thirtyTwo(y)), big.NewInt(past))
				checkField(t, "a sum around P", impl.FieldAdd(thirtyTwo(y), thirtyTwo(x)), big.NewInt(past))
			}
		}
	}
}

func TestFieldSubOfLessThanTheSecond(t *testing.T) {
	for _, x := range fieldEdges() {
		for _, more := range []int64{0, 1, 2, 18, 19, 20, 38, 121665} {
			y := new(big.Int).Add(x, big.NewInt(more))
			if y.Cmp(power(255, 1)) > 0 {
				continue
			}
			checkField(t, "the greater one less the other", impl.FieldSub(thirtyTwo(y), thirtyTwo(x)), big.NewInt(more))
			checkField(t, "the one less the greater", impl.FieldSub(thirtyTwo(x), thirtyTwo(y)), big.NewInt(-more))
		}
		checkField(t, "0 less a number", impl.FieldSub(impl.FieldNum(0), thirtyTwo(x)), new(big.Int).Neg(x))
		checkField(t, "a number less itself", impl.FieldSub(thirtyTwo(x), thirtyTwo(x)), big.NewInt(0))
	}
}

// Products of great numbers that come to small ones, and to such as are just below P: there what goes over goes round more than once.
func TestFieldProductsAroundP(t *testing.T) {
	from := rand.New(rand.NewSource(88))
	for range 40 {
		x := new(big.Int).Mod(meant(oftenEdgy(from)), fieldP())
		if x.Sign() == 0 {
			continue
		}
		inverse := new(big.Int).ModInverse(x, fieldP())
		for past := int64(-400); past <= 400; past++ {
			y := new(big.Int).Mul(inverse, big.NewInt(past))
			y.Mod(y, fieldP())
			checkField(t, "a product around P", impl.FieldMul(thirtyTwo(x), thirtyTwo(y)), big.NewInt(past))
		}
	}
}

// Promise 8: a times what makes 1 with it is 1.
func TestFieldInv(t *testing.T) {
	for _, n := range fieldEdges() {
		for _, a := range bothTops(n) {
			checkInverse(t, a)
			checkField(t, "what makes 1 with what makes 1 with "+impl.Hex(a), impl.FieldInv(impl.FieldInv(a)), n)
		}
	}
	for n := range 300 {
		checkInverse(t, impl.FieldNum(n))
	}
	for bit := range uint(255) {
		checkInverse(t, thirtyTwo(power(bit, 0)))
	}
	from := rand.New(rand.NewSource(8))
	for range 1000 {
		checkInverse(t, oftenEdgy(from))
	}
}

func TestFieldInvOfNought(t *testing.T) {
	for _, n := range []*big.Int{big.NewInt(0), fieldP()} {
		for _, a := range bothTops(n) {
			if got := impl.FieldInv(a); !bytes.Equal(got, make([]byte, 32)) {
				t.Errorf("FieldInv(%x) = %x, want 32 bytes 0", a, got)
			}
		}
	}
	for _, n := range []*big.Int{big.NewInt(1), fromP(1), fromP(-1)} {
		for _, a := range bothTops(n) {
			if got, want := impl.FieldInv(a), leftByP(n); !bytes.Equal(got, want) {
				t.Errorf("FieldInv(%x) = %x, want %x", a, got, want)
			}
		}
	}
}

// soManyBytes are bytes of their own, nothing but bytes 0, and the beginning of more.
func soManyBytes(many int) [][]byte {
	return [][]byte{someBytes(many), make([]byte, many, 200), someBytes(200)[:many]}
}

func TestFieldOfOtherSizes(t *testing.T) {
	right := someBytes(32)
	for many := range 100 {
		if many == 32 {
			continue
		}
		for _, wrong := range soManyBytes(many) {
			for _, f := range fieldTwo {
				for _, c := range [][2][]byte{{wrong, right}, {right, wrong}, {wrong, wrong}, {nil, wrong}, {wrong, nil}} {
					if got := f.got(c[0], c[1]); len(got) != 0 {
						t.Errorf("%s of %d and %d bytes = %x, want nothing", f.name, len(c[0]), len(c[1]), got)
					}
				}
			}
			if got := impl.FieldInv(wrong); len(got) != 0 {
				t.Errorf("FieldInv of %d bytes = %x, want nothing", many, got)
			}
			if got := impl.FieldOf(wrong); len(got) != 0 {
				t.Errorf("FieldOf of %d bytes = %x, want nothing", many, got)
			}
		}
	}
	for _, f := range fieldTwo {
		if len(f.got(nil, nil)) != 0 || len(f.got(nil, right)) != 0 || len(f.got(right, nil)) != 0 {
			t.Errorf("%s of nil is not nothing", f.name)
		}
		// Two sizes that are wrong do not make up for each other.
		if len(f.got(right[:31], someBytes(33))) != 0 || len(f.got(someBytes(33), right[:31])) != 0 {
			t.Errorf("%s of 31 and 33 bytes is not nothing", f.name)
		}
	}
	if len(impl.FieldInv(nil)) != 0 || len(impl.FieldOf(nil)) != 0 {
		t.Error("FieldInv or FieldOf of nil is not nothing")
	}
}

func TestFieldOfManyAtATime(t *testing.T) {
	a, b := someBytes(32), allBytes()[200:232]
	var all sync.WaitGroup
	for range 16 {
		all.Go(func() {
			for range 50 {
				for _, f := range fieldTwo {
					if got, want := f.got(a, b), leftByP(f.want(meant(a), meant(b))); !bytes.Equal(got, want) {
						t.Errorf("%s = %x, want %x", f.name, got, want)
					}
				}
				if got := impl.FieldMul(a, impl.FieldInv(a)); !bytes.Equal(got, impl.FieldNum(1)) {
					t.Errorf("a times what makes 1 with it = %x", got)
				}
			}
		})
	}
	all.Wait()
}

func TestFieldLeavesItsArgumentsAlone(t *testing.T) {
	// Bytes 255, of which a bit does not count and of which P is taken away, with room behind them.
	backing := bytes.Repeat([]byte{255}, 200)
	for _, many := range []int{0, 31, 32, 33} {
		a, b := backing[:many], backing[40:40+many]
		for _, f := range fieldTwo {
			f.got(a, b)
			f.got(a, a)
			f.got(backing[:32], b)
			f.got(a, backing[:32])
		}
		impl.FieldInv(a)
		impl.FieldOf(a)
	}
	if !bytes.Equal(backing, bytes.Repeat([]byte{255}, 200)) {
		t.Errorf("bytes turned into %x", backing)
	}
}

// checkAnew writes over an answer, and over the room behind it, which is not to be seen in the next one.
func checkAnew(t *testing.T, name string, ask func() []byte) {
	t.Helper()
	first := ask()
	kept := bytes.Clone(first)
	whole := first[:cap(first)]
	for i := range whole {
		whole[i] ^= 255
	}
	if again := ask(); !bytes.Equal(again, kept) {
		t.Errorf("%s, asked again, = %x, want %x", name, again, kept)
	}
}

func TestFieldAnswersAnewEachTime(t *testing.T) {
	a, b := someBytes(32), impl.FieldNum(1)
	asks := map[string]func() []byte{
		"FieldInv":                func() []byte { return impl.FieldInv(a) },
		"FieldOf":                 func() []byte { return impl.FieldOf(b) },
		"FieldNum":                func() []byte { return impl.FieldNum(7) },
		"FieldNum of one below 0": func() []byte { return impl.FieldNum(-7) },
		"FieldInv of 1":           func() []byte { return impl.FieldInv(b) },
	}
	for _, f := range fieldTwo {
		asks[f.name] = func() []byte { return f.got(a, b) }
		asks[f.name+" of one"] = func() []byte { return f.got(b, b) }
		asks[f.name+" of 0"] = func() []byte { return f.got(a, impl.FieldNum(0)) }
	}
	for name, ask := range asks {
		checkAnew(t, name, ask)
		if !bytes.Equal(a, someBytes(32)) || !bytes.Equal(b, thirtyTwo(big.NewInt(1))) {
			t.Fatalf("%s shares memory with what it was given", name)
		}
	}
}
