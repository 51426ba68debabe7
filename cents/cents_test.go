package cents

import (
	"math"
	"math/big"
	"math/rand"
	"slices"
	"testing"

	"contango/api"
)

const most = api.MaxMoney

var modes = []int{api.Down, api.Up, api.Floor, api.Ceil, api.Half}

// misfits are ints that do not fit, from just beyond the bound to the ends of int.
var misfits = []int{most + 1, -most - 1, math.MaxInt, math.MinInt}

// edges are amounts that fit, at the bound, at 0 and near them.
var edges = []int{most, most - 1, 1<<59 + 1, 1 << 59, 1<<30 + 1, 1 << 30, 3, 2, 1, 0, -1, -2, -3, -1 << 30, -1<<30 - 1, -1 << 59, -1<<59 - 1, 1 - most, -most}

func check(t *testing.T, what string, n int, e api.Errno, wantN int, wantE api.Errno) {
	t.Helper()
	if n != wantN || e != wantE {
		t.Errorf("%s: %d, error %d; want %d, error %d", what, n, e, wantN, wantE)
	}
}

// checkExact holds a result against the exact one, which may not fit.
func checkExact(t *testing.T, n int, e api.Errno, exact *big.Int, args ...int) {
	t.Helper()
	wantN, wantE := 0, api.ErrOver
	if exact.CmpAbs(big.NewInt(most)) <= 0 {
		wantN, wantE = int(exact.Int64()), api.OK
	}
	if n != wantN || e != wantE {
		t.Errorf("%v: %d, error %d; want %d, error %d", args, n, e, wantN, wantE)
	}
}

// amount returns a random amount of a random number of bits and either sign.
func amount(r *rand.Rand) int {
	n := r.Int() >> (3 + r.Intn(60))
	if r.Intn(2) == 0 {
		return -n
	}
	return n
}

// exactQuotient rounds a*b/c by the modes' definitions, on numbers of any length.
func exactQuotient(a, b, c, mode int) *big.Int {
	product := new(big.Int).Mul(big.NewInt(int64(a)), big.NewInt(int64(b)))
	divisor := big.NewInt(int64(c))
	if c < 0 {
		product.Neg(product)
		divisor.Neg(divisor)
	}
	floor, rest := new(big.Int).DivMod(product, divisor, new(big.Int))
	if rest.Sign() == 0 {
		return floor
	}
	ceil := new(big.Int).Add(floor, big.NewInt(1))
	toZero, away := floor, ceil
	if product.Sign() < 0 {
		toZero, away = ceil, floor
	}
	switch mode {
	case api.Down:
		return toZero
	case api.Up:
		return away
	case api.Floor:
		return floor
	case api.Ceil:
		return ceil
	}
	switch rest.Lsh(rest, 1).Cmp(divisor) {
	case -1:
		return floor
	case 1:
		return ceil
	}
	if floor.Bit(0) == 0 {
		return floor
	}
	return ceil
}

// P1.1
func TestFits(t *testing.T) {
	for _, n := range edges {
		if !Fits(n) {
			t.Errorf("%d fits", n)
		}
	}
	for _, n := range misfits {
		if Fits(n) {
			t.Errorf("%d does not fit", n)
		}
	}
}

// P1.2
func TestAddSub(t *testing.T) {
	n, e := Add(2, 3)
	check(t, "2 + 3", n, e, 5, api.OK)
	n, e = Sub(2, 3)
	check(t, "2 - 3", n, e, -1, api.OK)
	n, e = Add(most, 0)
	check(t, "most + 0", n, e, most, api.OK)
	n, e = Add(most-1, 1)
	check(t, "most - 1 + 1", n, e, most, api.OK)
	n, e = Add(most, 1)
	check(t, "most + 1", n, e, 0, api.ErrOver)
	n, e = Add(-most, -1)
	check(t, "-most + -1", n, e, 0, api.ErrOver)
	n, e = Sub(-most, 1)
	check(t, "-most - 1", n, e, 0, api.ErrOver)
	n, e = Sub(0, -most)
	check(t, "0 - -most", n, e, most, api.OK)
	n, e = Sub(most, -most)
	check(t, "most - -most", n, e, 0, api.ErrOver)
	for _, a := range edges {
		for _, b := range edges {
			x, y := big.NewInt(int64(a)), big.NewInt(int64(b))
			n, e := Add(a, b)
			checkExact(t, n, e, new(big.Int).Add(x, y), a, b)
			n, e = Sub(a, b)
			checkExact(t, n, e, new(big.Int).Sub(x, y), a, b)
		}
	}
}

// P1.2: an argument that does not fit is named ahead of a sum that does not, and even where the sum would fit.
func TestAddSubArguments(t *testing.T) {
	for _, bad := range misfits {
		for _, other := range append(slices.Clone(edges), misfits...) {
			n, e := Add(bad, other)
			check(t, "Add", n, e, 0, api.ErrArg)
			n, e = Add(other, bad)
			check(t, "Add", n, e, 0, api.ErrArg)
			n, e = Sub(bad, other)
			check(t, "Sub", n, e, 0, api.ErrArg)
			n, e = Sub(other, bad)
			check(t, "Sub", n, e, 0, api.ErrArg)
		}
	}
}

// P1.3
func TestSum(t *testing.T) {
	for _, c := range []struct {
		l    []int
		want int
		e    api.Errno
	}{
		{nil, 0, api.OK},
		{[]int{}, 0, api.OK},
		{[]int{7}, 7, api.OK},
		{[]int{1, 2, -10}, -7, api.OK},
		{[]int{most}, most, api.OK},
		{[]int{-most}, -most, api.OK},
		{[]int{most, 1, -1}, most, api.OK},
		{[]int{most, most, -most}, most, api.OK},
		{[]int{-most, -most, most}, -most, api.OK},
		{[]int{most, most, -most, -most}, 0, api.OK},
		{[]int{most, 1}, 0, api.ErrOver},
		{[]int{most - 1, 1, 1}, 0, api.ErrOver},
		{[]int{-most, -1}, 0, api.ErrOver},
		{[]int{most, most, 1 - most}, 0, api.ErrOver},
		{[]int{-most, -most, most - 1}, 0, api.ErrOver},
		{[]int{most, most}, 0, api.ErrOver},
		{[]int{-most, -most}, 0, api.ErrOver},
		{[]int{most + 1}, 0, api.ErrArg},
		{[]int{math.MinInt}, 0, api.ErrArg},
		{[]int{most + 1, -1}, 0, api.ErrArg},
		{[]int{most, most, most + 1}, 0, api.ErrArg},
		{[]int{-most, -1, math.MaxInt}, 0, api.ErrArg},
	} {
		if n, e := Sum(c.l); n != c.want || e != c.e {
			t.Errorf("%v: %d, error %d; want %d, error %d", c.l, n, e, c.want, c.e)
		}
	}
}

// P1.3: partial sums far beyond an int, in lists longer than any limit of api.
func TestSumLong(t *testing.T) {
	const count = 3 * api.MaxList
	up := slices.Repeat([]int{most}, count)
	down := slices.Repeat([]int{-most}, count)
	n, e := Sum(slices.Concat(up, down))
	check(t, "up and down", n, e, 0, api.OK)
	n, e = Sum(slices.Concat(down, up, []int{-most}))
	check(t, "down and up", n, e, -most, api.OK)
	n, e = Sum(slices.Concat(up, down, []int{most, 1}))
	check(t, "one beyond", n, e, 0, api.ErrOver)
	// 16 and 32 times MaxMoney are 0 modulo 2^64.
	for _, times := range []int{8, 15, 16, 17, 32, count} {
		n, e = Sum(up[:times])
		check(t, "up", n, e, 0, api.ErrOver)
		n, e = Sum(down[:times])
		check(t, "down", n, e, 0, api.ErrOver)
	}
	n, e = Sum(append(up, most+1))
	check(t, "misfit at the end", n, e, 0, api.ErrArg)
}

func TestSumRandom(t *testing.T) {
	r := rand.New(rand.NewSource(1))
	for range 2000 {
		l := make([]int, r.Intn(9))
		exact := new(big.Int)
		for i := range l {
			l[i] = amount(r)
			exact.Add(exact, big.NewInt(int64(l[i])))
		}
		n, e := Sum(l)
		checkExact(t, n, e, exact, l...)
	}
}

// P1.4
func TestMul(t *testing.T) {
	for _, c := range []struct {
		a, b, want int
		e          api.Errno
	}{
		{6, 7, 42, api.OK},
		{-6, 7, -42, api.OK},
		{-6, -7, 42, api.OK},
		{0, most, 0, api.OK},
		{-most, 0, 0, api.OK},
		{1, most, most, api.OK},
		{most, -1, -most, api.OK},
		{1 << 30, -1 << 30, -most, api.OK},
		{-1 << 59, -2, most, api.OK},
		{1<<59 + 1, 2, 0, api.ErrOver},
		{1<<30 + 1, 1 << 30, 0, api.ErrOver},
		{1<<30 + 1, -1 << 30, 0, api.ErrOver},
		{1 << 32, 1 << 32, 0, api.ErrOver}, // 0 modulo 2^64
		{most, most, 0, api.ErrOver},
		{-most, most, 0, api.ErrOver},
	} {
		if n, e := Mul(c.a, c.b); n != c.want || e != c.e {
			t.Errorf("%d * %d: %d, error %d; want %d, error %d", c.a, c.b, n, e, c.want, c.e)
		}
	}
	for _, a := range edges {
		for _, b := range edges {
			n, e := Mul(a, b)
			checkExact(t, n, e, new(big.Int).Mul(big.NewInt(int64(a)), big.NewInt(int64(b))), a, b)
		}
		for _, bad := range misfits {
			n, e := Mul(a, bad)
			check(t, "Mul", n, e, 0, api.ErrArg)
			n, e = Mul(bad, a)
			check(t, "Mul", n, e, 0, api.ErrArg)
		}
	}
}

// P1.5: the errors, in their order.
func TestMulDivErrors(t *testing.T) {
	noModes := []int{api.Down - 1, api.Half + 1, -1, math.MaxInt, math.MinInt}
	for _, bad := range misfits {
		for _, args := range [][3]int{{bad, 1, 1}, {1, bad, 1}, {1, 1, bad}, {bad, 1, 0}, {1, bad, 0}, {bad, most, 1}, {bad, 0, most}, {0, bad, bad}} {
			for _, mode := range append(slices.Clone(modes), noModes...) {
				n, e := MulDiv(args[0], args[1], args[2], mode)
				check(t, "does not fit", n, e, 0, api.ErrArg)
			}
		}
	}
	for _, mode := range noModes {
		for _, args := range [][3]int{{6, 1, 2}, {1, 1, 0}, {most, most, 1}} {
			n, e := MulDiv(args[0], args[1], args[2], mode)
			check(t, "no mode", n, e, 0, api.ErrArg)
		}
	}
	for _, mode := range modes {
		for _, args := range [][2]int{{1, 1}, {0, 0}, {most, most}, {-most, most}} {
			n, e := MulDiv(args[0], args[1], 0, mode)
			check(t, "c is 0", n, e, 0, api.ErrZero)
		}
		for _, args := range [][3]int{{most, 3, 2}, {most, -3, 2}, {most, most, 1}, {-most, most, most - 1}, {most, 2, 1}, {most, 16, 1}} {
			n, e := MulDiv(args[0], args[1], args[2], mode)
			check(t, "too large", n, e, 0, api.ErrOver)
		}
	}
}

// P1.5: every mode, for quotients of either sign that lie below, at and above the middle, and for integers.
func TestMulDivModes(t *testing.T) {
	for _, c := range []struct {
		a, c int
		want [5]int // Down, Up, Floor, Ceil, Half
	}{
		{0, 3, [5]int{0, 0, 0, 0, 0}},
		{6, 3, [5]int{2, 2, 2, 2, 2}},
		{-6, 3, [5]int{-2, -2, -2, -2, -2}},
		{1, 3, [5]int{0, 1, 0, 1, 0}},
		{-1, 3, [5]int{0, -1, -1, 0, 0}},
		{7, 3, [5]int{2, 3, 2, 3, 2}},
		{-7, 3, [5]int{-2, -3, -3, -2, -2}},
		{8, 3, [5]int{2, 3, 2, 3, 3}},
		{-8, 3, [5]int{-2, -3, -3, -2, -3}},
		{1, 2, [5]int{0, 1, 0, 1, 0}},
		{-1, 2, [5]int{0, -1, -1, 0, 0}},
		{3, 2, [5]int{1, 2, 1, 2, 2}},
		{-3, 2, [5]int{-1, -2, -2, -1, -2}},
		{5, 2, [5]int{2, 3, 2, 3, 2}},
		{-5, 2, [5]int{-2, -3, -3, -2, -2}},
		{7, 2, [5]int{3, 4, 3, 4, 4}},
		{-7, 2, [5]int{-3, -4, -4, -3, -4}},
	} {
		for i, mode := range modes {
			// The quotient is the same whichever of the numbers carry its sign.
			for _, args := range [][3]int{{c.a, 1, c.c}, {1, c.a, c.c}, {-c.a, -1, c.c}, {-c.a, 1, -c.c}, {c.a, -1, -c.c}} {
				n, e := MulDiv(args[0], args[1], args[2], mode)
				if n != c.want[i] || e != api.OK {
					t.Errorf("%v, mode %d: %d, error %d; want %d", args, mode, n, e, c.want[i])
				}
			}
		}
	}
}

// P1.5: a quotient just beyond MaxMoney fits in the modes that round it to MaxMoney.
func TestMulDivAtTheBound(t *testing.T) {
	for _, c := range []struct {
		a, b, c int
		fits    [5]bool // Down, Up, Floor, Ceil, Half
	}{
		{most - 1, most - 1, most - 2, [5]bool{true, false, true, false, true}},
		{most - 1, 1 - most, most - 2, [5]bool{true, false, false, true, true}},
		{most - 1, 3 << 58, 3<<58 - 1, [5]bool{true, false, true, false, true}},   // a third beyond
		{most - 1, 5 << 57, 5<<57 - 1, [5]bool{true, false, true, false, false}},  // three fifths beyond
		{most - 1, -5 << 57, 5<<57 - 1, [5]bool{true, false, false, true, false}}, // the same below 0
		{(2*most + 1) / 3, 3, 2, [5]bool{true, false, true, false, true}},         // half beyond: MaxMoney is even
		{(2*most + 1) / 3, -3, 2, [5]bool{true, false, false, true, true}},
	} {
		for i, mode := range modes {
			want, wantE := 0, api.ErrOver
			if c.fits[i] {
				want, wantE = most, api.OK
				if c.b < 0 {
					want = -most
				}
			}
			if n, e := MulDiv(c.a, c.b, c.c, mode); n != want || e != wantE {
				t.Errorf("%d * %d / %d, mode %d: %d, error %d; want %d, error %d", c.a, c.b, c.c, mode, n, e, want, wantE)
			}
		}
	}
}

// P1.5: the product may be arbitrarily large.
func TestMulDivExact(t *testing.T) {
	for _, a := range edges {
		for _, b := range edges {
			for _, c := range edges {
				if c == 0 {
					continue
				}
				for _, mode := range modes {
					n, e := MulDiv(a, b, c, mode)
					checkExact(t, n, e, exactQuotient(a, b, c, mode), a, b, c, mode)
				}
			}
		}
	}
	r := rand.New(rand.NewSource(2))
	for range 5000 {
		a, b, c := amount(r), amount(r), amount(r)
		if c == 0 {
			continue
		}
		for _, mode := range modes {
			n, e := MulDiv(a, b, c, mode)
			checkExact(t, n, e, exactQuotient(a, b, c, mode), a, b, c, mode)
		}
	}
}

// P1.6
func TestClamp(t *testing.T) {
	for _, c := range [][4]int{
		{5, 3, 7, 5}, {3, 3, 7, 3}, {7, 3, 7, 7}, {2, 3, 7, 3}, {8, 3, 7, 7},
		{-9, -5, -2, -5}, {0, -5, -2, -2}, {4, 4, 4, 4}, {3, 4, 4, 4}, {5, 4, 4, 4},
		{5, 7, 3, 7}, {7, 7, 3, 7}, {3, 7, 3, 7}, {1, 7, 3, 7}, {9, 7, 3, 7},
		{math.MaxInt, math.MinInt, math.MaxInt, math.MaxInt},
		{math.MinInt, math.MinInt, math.MaxInt, math.MinInt},
		{math.MinInt, -1, 1, -1}, {math.MaxInt, -1, 1, 1},
		{0, math.MaxInt, math.MinInt, math.MaxInt},
		{math.MinInt, math.MaxInt, math.MinInt, math.MaxInt},
		{most + 5, 0, most + 3, most + 3},
	} {
		if m := Clamp(c[0], c[1], c[2]); m != c[3] {
			t.Errorf("Clamp(%d, %d, %d): %d; want %d", c[0], c[1], c[2], m, c[3])
		}
	}
}

// P1.7
func TestSumInAnyOrder(t *testing.T) {
	r := rand.New(rand.NewSource(3))
	for range 500 {
		l := make([]int, 1+r.Intn(8))
		for i := range l {
			l[i] = edges[r.Intn(len(edges))]
			if r.Intn(20) == 0 {
				l[i] = misfits[r.Intn(len(misfits))]
			}
		}
		n, e := Sum(l)
		for range 5 {
			r.Shuffle(len(l), func(i, j int) { l[i], l[j] = l[j], l[i] })
			m, f := Sum(l)
			check(t, "another order", m, f, n, e)
		}
	}
}

// P1.7
func TestSubUndoesAdd(t *testing.T) {
	for _, a := range edges {
		for _, b := range edges {
			n, e := Add(a, b)
			if e != api.OK {
				continue
			}
			m, e := Sub(n, b)
			check(t, "undone", m, e, a, api.OK)
		}
	}
}

// P1.8
func TestFloorAndCeil(t *testing.T) {
	r := rand.New(rand.NewSource(4))
	for range 3000 {
		a, b, c := amount(r), amount(r)%1000, amount(r)
		if r.Intn(2) == 0 {
			a, c = a%50, c%50
		}
		if c == 0 {
			continue
		}
		floor, e := MulDiv(a, b, c, api.Floor)
		ceil, f := MulDiv(a, b, c, api.Ceil)
		if e != api.OK || f != api.OK {
			continue
		}
		product := new(big.Int).Mul(big.NewInt(int64(a)), big.NewInt(int64(b)))
		whole := product.Rem(product, big.NewInt(int64(c))).Sign() == 0
		if whole && ceil != floor || !whole && ceil != floor+1 {
			t.Errorf("%d * %d / %d: from %d to %d", a, b, c, floor, ceil)
		}
		for _, mode := range modes {
			if n, e := MulDiv(a, b, c, mode); e != api.OK || n != floor && n != ceil {
				t.Errorf("%d * %d / %d, mode %d: %d, error %d; from %d to %d", a, b, c, mode, n, e, floor, ceil)
			}
		}
	}
}

// P1.8
func TestMultiplyAndDivide(t *testing.T) {
	for _, a := range edges {
		for _, b := range edges {
			if b == 0 {
				continue
			}
			for _, mode := range modes {
				n, e := MulDiv(a, b, b, mode)
				check(t, "by the same", n, e, a, api.OK)
			}
		}
	}
}

func TestExamples(t *testing.T) {
	for _, c := range [][5]int{
		{7, 1, 2, api.Half, 4}, {5, 1, 2, api.Half, 2}, {-5, 1, 2, api.Floor, -3}, {-5, 1, 2, api.Down, -2},
		{1 << 60, 1 << 60, 1 << 60, api.Down, 1 << 60},
	} {
		n, e := MulDiv(c[0], c[1], c[2], c[3])
		check(t, "MulDiv", n, e, c[4], api.OK)
	}
	n, e := Sum([]int{1 << 60, 1, -1})
	check(t, "Sum", n, e, 1<<60, api.OK)
	n, e = Add(1<<60, 1)
	check(t, "Add", n, e, 0, api.ErrOver)
	if m := Clamp(5, 7, 3); m != 7 {
		t.Errorf("Clamp: %d", m)
	}
}

func TestSumKeepsItsArgument(t *testing.T) {
	for _, third := range []int{-most, most, most + 1} {
		memory := []int{most, 1, third, 77, 78}
		before := slices.Clone(memory)
		Sum(memory[:3])
		if !slices.Equal(memory, before) {
			t.Errorf("%v became %v", before, memory)
		}
	}
}
