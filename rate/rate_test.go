package rate

import (
	"fmt"
	"math"
	"math/big"
	"math/rand"
	"slices"
	"strings"
	"testing"

	"contango/api"
)

const (
	most  = api.MaxMoney
	steep = 1000000000000 // the greatest Micro
)

var modes = []int{api.Down, api.Up, api.Floor, api.Ceil, api.Half}

// noModes are ints that are not rounding modes.
var noModes = []int{0, 6, -1, 1 << 32, math.MinInt, math.MaxInt}

// misfits are ints that do not fit, from just beyond the bound to the ends of int.
var misfits = []int{most + 1, -most - 1, math.MaxInt, math.MinInt}

// amounts fit: at the bound, at 0, and between.
var amounts = []int{most, most - 1, 1 << 59, 1 << 40, 1000000007, 1000, 101, 100, 50, 3, 2, 1, 0, -1, -2, -3, -50, -100, -101, -1000, -1000000007, -1 << 40, -1 << 59, 1 - most, -most}

// usdEur are the rates of the chapter's examples.
func usdEur() []api.Rate {
	return []api.Rate{{Name: "usd", Micro: 1000000}, {Name: "eur", Micro: 1080000}}
}

// wide are rates at the bounds of Micro and between, as many as there may be.
func wide() []api.Rate {
	return []api.Rate{{Name: "usd", Micro: 1000000}, {Name: "eur", Micro: 1080000}, {Name: "jpy", Micro: 6700}, {Name: "low", Micro: 1}, {Name: "high", Micro: steep}, {Name: "near", Micro: steep - 1}, {Name: "two", Micro: 2}, {Name: "par", Micro: 1000000}}
}

// many returns so many valid rates.
func many(n int) (l []api.Rate) {
	for i := range n {
		l = append(l, api.Rate{Name: fmt.Sprint("c", i), Micro: api.Million})
	}
	return l
}

// noCurs returns ints that are no index of so many rates.
func noCurs(n int) []int {
	return []int{-1, n, n + 1, -n, 1 << 32, -1 << 32, math.MinInt, math.MaxInt}
}

// wrongLists are lists of rates that Check does not accept, with its error.
func wrongLists() map[string]struct {
	l []api.Rate
	e api.Errno
} {
	return map[string]struct {
		l []api.Rate
		e api.Errno
	}{
		"none":  {nil, api.ErrLong},
		"long":  {many(api.MaxCur + 1), api.ErrLong},
		"name":  {[]api.Rate{{Name: "usd", Micro: api.Million}, {Name: "Eur", Micro: 1}}, api.ErrName},
		"there": {[]api.Rate{{Name: "usd", Micro: api.Million}, {Name: "usd", Micro: 1}}, api.ErrThere},
		"micro": {[]api.Rate{{Name: "usd", Micro: api.Million}, {Name: "eur", Micro: 0}}, api.ErrRate},
		"first": {[]api.Rate{{Name: "usd", Micro: 1}, {Name: "eur", Micro: api.Million}}, api.ErrRate},
	}
}

func check(t *testing.T, what string, n int, e api.Errno, wantN int, wantE api.Errno) {
	t.Helper()
	if n != wantN || e != wantE {
		t.Errorf("%s: %d, error %d; want %d, error %d", what, n, e, wantN, wantE)
	}
}

// exact rounds n*a/b, for b above 0, by the modes' definitions, on numbers of any length.
func exact(n, a, b, mode int) *big.Int {
	product := new(big.Int).Mul(big.NewInt(int64(n)), big.NewInt(int64(a)))
	divisor := big.NewInt(int64(b))
	floor, rest := new(big.Int).DivMod(product, divisor, new(big.Int))
	if rest.Sign() == 0 {
		return floor
	}
	ceil := new(big.Int).Add(floor, big.NewInt(1))
	nearer := rest.Lsh(rest, 1).Cmp(divisor)
	switch {
	case mode == api.Floor, mode == api.Down && n > 0, mode == api.Up && n < 0:
		return floor
	case mode == api.Half && (nearer < 0 || nearer == 0 && floor.Bit(0) == 0):
		return floor
	}
	return ceil
}

// result returns what a call must return for an exact result.
func result(n *big.Int) (int, api.Errno) {
	if n.CmpAbs(big.NewInt(most)) > 0 {
		return 0, api.ErrOver
	}
	return int(n.Int64()), api.OK
}

// randomRates returns valid rates.
func randomRates(r *rand.Rand) []api.Rate {
	l := many(1 + r.Intn(api.MaxCur))
	for i := 1; i < len(l); i++ {
		l[i].Micro = 1 + r.Intn(steep)>>r.Intn(40)
	}
	return l
}

// randomAmount returns an amount that fits, of any length and either sign.
func randomAmount(r *rand.Rand) int {
	n := r.Int() >> (3 + r.Intn(60))
	if r.Intn(2) == 0 {
		return -n
	}
	return n
}

// P8.1
func TestCheck(t *testing.T) {
	for _, l := range [][]api.Rate{usdEur(), wide(), many(1), many(2), many(api.MaxCur), {{Name: "a23456789012", Micro: api.Million}, {Name: "a", Micro: 1}, {Name: "b", Micro: steep}}} {
		if e := Check(l); e != api.OK {
			t.Errorf("%v: error %d", l, e)
		}
	}
	for what, c := range wrongLists() {
		if e := Check(c.l); e != c.e {
			t.Errorf("%s: error %d; want %d", what, e, c.e)
		}
	}
	if e := Check([]api.Rate{}); e != api.ErrLong {
		t.Errorf("an empty list: error %d", e)
	}
	for _, n := range []int{api.MaxCur + 1, api.MaxCur + 2, 2 * api.MaxCur, 1000} {
		if e := Check(many(n)); e != api.ErrLong {
			t.Errorf("%d rates: error %d", n, e)
		}
	}
}

// P8.1: a fault is found in whatever place it is.
func TestCheckPlaces(t *testing.T) {
	for i := range api.MaxCur {
		for _, name := range []string{"", "1a", "Usd", "a b", "a.", "abcdefghijklm", "\xc3\xa4"} {
			l := many(api.MaxCur)
			l[i].Name = name
			if e := Check(l); e != api.ErrName {
				t.Errorf("%q at %d: error %d", name, i, e)
			}
		}
		for _, micro := range []int{0, -1, steep + 1, math.MinInt, math.MaxInt, -api.Million} {
			l := many(api.MaxCur)
			l[i].Micro = micro
			if e := Check(l); e != api.ErrRate {
				t.Errorf("%d at %d: error %d", micro, i, e)
			}
		}
		for j := range i {
			l := many(api.MaxCur)
			l[i].Name = l[j].Name
			if e := Check(l); e != api.ErrThere {
				t.Errorf("one name at %d and %d: error %d", j, i, e)
			}
		}
	}
}

// P8.1: the first rate is Million; the others are from 1 to Million times Million.
func TestCheckMicro(t *testing.T) {
	for _, micro := range []int{1, 2, 999999, 1000000, 1000001, steep - 1, steep} {
		want := api.OK
		if micro != api.Million {
			want = api.ErrRate
		}
		if e := Check([]api.Rate{{Name: "a", Micro: micro}, {Name: "b", Micro: api.Million}}); e != want {
			t.Errorf("first %d: error %d; want %d", micro, e, want)
		}
		if e := Check([]api.Rate{{Name: "a", Micro: api.Million}, {Name: "b", Micro: micro}}); e != api.OK {
			t.Errorf("second %d: error %d", micro, e)
		}
	}
}

// P8.1: a condition is checked for all elements before the next one.
func TestCheckOrder(t *testing.T) {
	long := many(api.MaxCur + 1)
	long[0] = api.Rate{}
	long[1].Name = long[2].Name
	for what, c := range map[string]struct {
		l    []api.Rate
		want api.Errno
	}{
		"long before all others": {long, api.ErrLong},
		"name before there":      {[]api.Rate{{Name: "a", Micro: api.Million}, {Name: "a", Micro: 1}, {Name: "B", Micro: 1}}, api.ErrName},
		"one name that is none":  {[]api.Rate{{Name: "", Micro: api.Million}, {Name: "", Micro: 1}}, api.ErrName},
		"name before rate":       {[]api.Rate{{Name: "a", Micro: 0}, {Name: "B", Micro: 1}}, api.ErrName},
		"there before rate":      {[]api.Rate{{Name: "a", Micro: 7}, {Name: "b", Micro: 0}, {Name: "b", Micro: 1}}, api.ErrThere},
	} {
		if e := Check(c.l); e != c.want {
			t.Errorf("%s: error %d; want %d", what, e, c.want)
		}
	}
}

// P8.1: all functions with rates but Find return the error of Check first, whatever else is wrong.
func TestCheckFirst(t *testing.T) {
	for what, c := range wrongLists() {
		for _, cur := range []int{0, -1, len(c.l), math.MaxInt} {
			for _, n := range []int{0, 100, math.MinInt} {
				for _, mode := range []int{api.Half, 0} {
					m, e := Convert(c.l, n, cur, cur, mode)
					check(t, what+" in Convert", m, e, 0, c.e)
					m, e = Base(c.l, n, cur, mode)
					check(t, what+" in Base", m, e, 0, c.e)
					m, e = Total(c.l, slices.Repeat([]int{n}, len(c.l)+1), mode)
					check(t, what+" in Total", m, e, 0, c.e)
					m, e = Total(c.l, nil, mode)
					check(t, what+" in Total of none", m, e, 0, c.e)
				}
			}
			m, e := Cross(c.l, cur, cur)
			check(t, what+" in Cross", m, e, 0, c.e)
		}
	}
}

// P8.2
func TestFind(t *testing.T) {
	for i, r := range wide() {
		if cur, ok := Find(wide(), r.Name); cur != i || !ok {
			t.Errorf("%q: %d, %t; want %d", r.Name, cur, ok, i)
		}
	}
	for _, name := range []string{"", "us", "usdx", "USD", "usd ", " usd", "usd\x00", "gbp", strings.Repeat("u", 100000)} {
		if cur, ok := Find(wide(), name); cur != 0 || ok {
			t.Errorf("%q: %d, %t", name, cur, ok)
		}
	}
	if cur, ok := Find(nil, "usd"); cur != 0 || ok {
		t.Errorf("in no rates: %d, %t", cur, ok)
	}
}

// P8.2: any list, and of the same names the first.
func TestFindAnyList(t *testing.T) {
	odd := []api.Rate{{Name: "A b", Micro: -1}, {Name: "x", Micro: 0}, {Name: "x", Micro: 5}, {Name: "", Micro: 1}, {Name: "A b", Micro: 2}, {Name: "", Micro: 2}, {Name: strings.Repeat("z", 1000)}}
	for name, want := range map[string]int{"A b": 0, "x": 1, "": 3, strings.Repeat("z", 1000): 6} {
		if cur, ok := Find(odd, name); cur != want || !ok {
			t.Errorf("%q: %d, %t; want %d", name, cur, ok, want)
		}
	}
	if cur, ok := Find(many(100), "c99"); cur != 99 || !ok {
		t.Errorf("the last of many: %d, %t", cur, ok)
	}
}

// P8.3
func TestConvert(t *testing.T) {
	for _, c := range []struct{ n, from, to, mode, want int }{
		{100, 1, 0, api.Half, 108},
		{100, 1, 0, api.Down, 108},
		{100, 0, 1, api.Half, 93},
		{100, 0, 1, api.Down, 92},
		{100, 0, 1, api.Up, 93},
		{100, 0, 1, api.Floor, 92},
		{100, 0, 1, api.Ceil, 93},
		{-100, 0, 1, api.Half, -93},
		{-100, 0, 1, api.Down, -92},
		{-100, 0, 1, api.Up, -93},
		{-100, 0, 1, api.Floor, -93},
		{-100, 0, 1, api.Ceil, -92},
		{0, 0, 1, api.Up, 0},
	} {
		m, e := Convert(usdEur(), c.n, c.from, c.to, c.mode)
		check(t, fmt.Sprint(c), m, e, c.want, api.OK)
	}
	half := []api.Rate{{Name: "usd", Micro: 1000000}, {Name: "eur", Micro: 500000}}
	for n, want := range map[int]int{1: 0, 3: 2, 5: 2, 7: 4, -1: 0, -3: -2, -5: -2} { // ties go to the even one
		m, e := Convert(half, n, 1, 0, api.Half)
		check(t, fmt.Sprint(n, " halves"), m, e, want, api.OK)
	}
	m, e := Convert(wide(), most/steep, 4, 3, api.Half)
	check(t, "the steepest rate", m, e, most/steep*steep, api.OK)
	m, e = Convert(wide(), most/steep+1, 4, 3, api.Half)
	check(t, "beyond the bound", m, e, 0, api.ErrOver)
	m, e = Convert(wide(), -most/steep-1, 4, 3, api.Half)
	check(t, "beyond the bound below 0", m, e, 0, api.ErrOver)
}

// P8.3: all pairs of currencies, in all modes, against numbers of any length.
func TestConvertExactly(t *testing.T) {
	l := wide()
	for _, n := range amounts {
		for from := range l {
			for to := range l {
				for _, mode := range modes {
					m, e := Convert(l, n, from, to, mode)
					wantM, wantE := result(exact(n, l[from].Micro, l[to].Micro, mode))
					check(t, fmt.Sprint(n, from, to, mode), m, e, wantM, wantE)
				}
			}
		}
	}
	r := rand.New(rand.NewSource(8))
	for range 20000 {
		l := randomRates(r)
		n, from, to, mode := randomAmount(r), r.Intn(len(l)), r.Intn(len(l)), modes[r.Intn(len(modes))]
		m, e := Convert(l, n, from, to, mode)
		wantM, wantE := result(exact(n, l[from].Micro, l[to].Micro, mode))
		check(t, fmt.Sprint(n, l[from], l[to], mode), m, e, wantM, wantE)
	}
}

// P8.3: a currency that is none is named ahead of an amount or a mode that is wrong, and those ahead of a result that is too large.
func TestConvertErrors(t *testing.T) {
	l := wide()
	for _, cur := range noCurs(len(l)) {
		for _, n := range append(slices.Clone(misfits), 0, 5) {
			for _, mode := range append(slices.Clone(noModes), api.Half) {
				m, e := Convert(l, n, cur, 0, mode)
				check(t, "from no currency", m, e, 0, api.ErrRate)
				m, e = Convert(l, n, 0, cur, mode)
				check(t, "to no currency", m, e, 0, api.ErrRate)
				m, e = Convert(l, n, cur, cur, mode)
				check(t, "from and to no currency", m, e, 0, api.ErrRate)
				m, e = Base(l, n, cur, mode)
				check(t, "Base of no currency", m, e, 0, api.ErrRate)
			}
		}
	}
	for from := range l {
		for to := range l {
			for _, n := range misfits {
				m, e := Convert(l, n, from, to, api.Half)
				check(t, "an amount that does not fit", m, e, 0, api.ErrArg)
			}
			for _, mode := range noModes {
				for _, n := range []int{0, 5, most, -most} {
					m, e := Convert(l, n, from, to, mode)
					check(t, "no mode", m, e, 0, api.ErrArg)
				}
			}
		}
	}
}

// P8.3: Base is Convert to the currency 0.
func TestBase(t *testing.T) {
	m, e := Base(usdEur(), 100, 1, api.Half)
	check(t, "100 eur", m, e, 108, api.OK)
	m, e = Base(usdEur(), 1, 1, api.Up)
	check(t, "1 eur, Up", m, e, 2, api.OK)
	m, e = Base(usdEur(), most, 1, api.Down)
	check(t, "most eur", m, e, 0, api.ErrOver)
	l := wide()
	for _, n := range append(slices.Clone(amounts), misfits...) {
		for cur := -1; cur <= len(l); cur++ {
			for _, mode := range append(slices.Clone(noModes), modes...) {
				m, e := Base(l, n, cur, mode)
				wantM, wantE := Convert(l, n, cur, 0, mode)
				check(t, fmt.Sprint(n, cur, mode), m, e, wantM, wantE)
			}
		}
	}
}

// P8.4
func TestCross(t *testing.T) {
	micro, e := Cross(usdEur(), 0, 1)
	check(t, "usd in eur", micro, e, 925926, api.OK)
	micro, e = Cross(usdEur(), 1, 0)
	check(t, "eur in usd", micro, e, 1080000, api.OK)
	l := wide()
	micro, e = Cross(l, 4, 3)
	check(t, "the steepest rate", micro, e, api.Million*steep, api.OK)
	for a := range l {
		for b := range l {
			micro, e := Cross(l, a, b)
			wantMicro, wantE := result(exact(api.Million, l[a].Micro, l[b].Micro, api.Half))
			check(t, fmt.Sprint(a, b), micro, e, wantMicro, wantE)
		}
		micro, e := Cross(l, a, 0)
		check(t, "in the first currency", micro, e, l[a].Micro, api.OK)
		for _, cur := range noCurs(len(l)) {
			micro, e = Cross(l, a, cur)
			check(t, "in no currency", micro, e, 0, api.ErrRate)
			micro, e = Cross(l, cur, a)
			check(t, "of no currency", micro, e, 0, api.ErrRate)
		}
	}
}

// P8.4: a tie goes to the even number.
func TestCrossTies(t *testing.T) {
	l := []api.Rate{{Name: "usd", Micro: api.Million}, {Name: "a", Micro: 1}, {Name: "b", Micro: 3}, {Name: "c", Micro: 2000000}}
	micro, e := Cross(l, 1, 3)
	check(t, "0.5", micro, e, 0, api.OK)
	micro, e = Cross(l, 2, 3)
	check(t, "1.5", micro, e, 2, api.OK)
}

// P8.5
func TestTotal(t *testing.T) {
	for _, c := range []struct {
		n    []int
		mode int
		want int
	}{
		{nil, api.Half, 0},
		{[]int{}, api.Half, 0},
		{[]int{100}, api.Half, 100},
		{[]int{100, 100}, api.Half, 208},
		{[]int{0, 1}, api.Half, 1},
		{[]int{0, 1}, api.Up, 2},
		{[]int{0, -1}, api.Floor, -2},
		{[]int{-108, 100}, api.Half, 0},
		{[]int{-most}, api.Down, -most},
	} {
		m, e := Total(usdEur(), c.n, c.mode)
		check(t, fmt.Sprint(c), m, e, c.want, api.OK)
	}
	thirds := []api.Rate{{Name: "usd", Micro: api.Million}, {Name: "a", Micro: 500000}, {Name: "b", Micro: 500000}}
	m, e := Total(thirds, []int{0, 1, 1}, api.Up)
	check(t, "each amount is rounded", m, e, 2, api.OK)
	m, e = Total(thirds, []int{0, 1, 1}, api.Down)
	check(t, "each amount is rounded, Down", m, e, 0, api.OK)
}

// P8.5: for no amounts there is nothing that the mode could be wrong for.
func TestTotalOfNone(t *testing.T) {
	for _, mode := range append(slices.Clone(noModes), modes...) {
		m, e := Total(usdEur(), nil, mode)
		check(t, fmt.Sprint("mode ", mode), m, e, 0, api.OK)
	}
}

// P8.5: partial sums may exceed the bound, the total may not.
func TestTotalBound(t *testing.T) {
	l := many(3)
	m, e := Total(l, []int{most, 1, -1}, api.Half)
	check(t, "most + 1 - 1", m, e, most, api.OK)
	m, e = Total(l, []int{-most, -most, most}, api.Half)
	check(t, "-most - most + most", m, e, -most, api.OK)
	m, e = Total(l, []int{most, 1}, api.Half)
	check(t, "most + 1", m, e, 0, api.ErrOver)
	m, e = Total(l, []int{-most, 0, -1}, api.Half)
	check(t, "-most - 1", m, e, 0, api.ErrOver)
	m, e = Total(many(api.MaxCur), slices.Repeat([]int{most}, api.MaxCur), api.Half)
	check(t, "most of each", m, e, 0, api.ErrOver)
}

// P8.5: too many amounts are named first, then the first error of Base, then that of the sum.
func TestTotalErrors(t *testing.T) {
	l := usdEur()
	for _, n := range [][]int{{0, 0, 0}, {math.MaxInt, 0, 0}, {0, most, 0}, make([]int, 1000)} {
		for _, mode := range []int{api.Half, 0} {
			m, e := Total(l, n, mode)
			check(t, "more amounts than rates", m, e, 0, api.ErrLong)
		}
	}
	three := []api.Rate{{Name: "usd", Micro: api.Million}, {Name: "eur", Micro: 1080000}, {Name: "jpy", Micro: 6700}}
	for what, c := range map[string]struct {
		n    []int
		want api.Errno
	}{
		"over, then argument":            {[]int{0, most, most + 1}, api.ErrOver},
		"argument, then over":            {[]int{math.MinInt, most, 0}, api.ErrArg},
		"argument ahead of the sum":      {[]int{most, 5, -most - 1}, api.ErrArg},
		"over, though the total may fit": {[]int{-most, most, 0}, api.ErrOver},
		"the sum":                        {[]int{most, 0, 100000}, api.ErrOver},
	} {
		m, e := Total(three, c.n, api.Half)
		check(t, what, m, e, 0, c.want)
	}
	for _, mode := range noModes {
		m, e := Total(three, []int{0}, mode)
		check(t, "no mode", m, e, 0, api.ErrArg)
	}
}

// P8.5: against numbers of any length.
func TestTotalExactly(t *testing.T) {
	r := rand.New(rand.NewSource(85))
	for range 5000 {
		l := randomRates(r)
		mode := modes[r.Intn(len(modes))]
		n := make([]int, r.Intn(len(l)+1))
		total, wantE := new(big.Int), api.OK
		for i := range n {
			n[i] = randomAmount(r)
			converted := exact(n[i], l[i].Micro, api.Million, mode)
			if _, e := result(converted); e != api.OK {
				wantE = e
			}
			total.Add(total, converted)
		}
		wantM := 0
		if wantE == api.OK {
			wantM, wantE = result(total)
		}
		m, e := Total(l, n, mode)
		check(t, fmt.Sprint(l, n, mode), m, e, wantM, wantE)
	}
}

// P8.6: an amount in its own currency stays as it is.
func TestOwnCurrency(t *testing.T) {
	l := wide()
	for cur := range l {
		for _, n := range amounts {
			for _, mode := range modes {
				m, e := Convert(l, n, cur, cur, mode)
				check(t, fmt.Sprint(n, cur, mode), m, e, n, api.OK)
			}
		}
		micro, e := Cross(l, cur, cur)
		check(t, "Cross", micro, e, api.Million, api.OK)
	}
}

// P8.6: a larger amount converts to no less.
func TestLarger(t *testing.T) {
	r := rand.New(rand.NewSource(86))
	for range 20000 {
		l := randomRates(r)
		from, to, mode := r.Intn(len(l)), r.Intn(len(l)), modes[r.Intn(len(modes))]
		a := randomAmount(r)
		b := min(a+r.Intn(1000), most)
		x, e := Convert(l, a, from, to, mode)
		if e != api.OK {
			continue
		}
		if y, e := Convert(l, b, from, to, mode); e == api.OK && y < x {
			t.Errorf("%v to %v by %d: %d to %d, but %d to %d", l[from], l[to], mode, a, x, b, y)
		}
	}
}

// P8.6: there and back, both times with Down, the absolute value does not grow, and the sign does not change.
func TestThereAndBack(t *testing.T) {
	r := rand.New(rand.NewSource(87))
	for range 20000 {
		l := randomRates(r)
		from, to, n := r.Intn(len(l)), r.Intn(len(l)), randomAmount(r)
		there, e := Convert(l, n, from, to, api.Down)
		if e != api.OK {
			continue
		}
		back, e := Convert(l, there, to, from, api.Down)
		if e != api.OK || n >= 0 && (back < 0 || back > n) || n < 0 && (back > 0 || back < n) {
			t.Errorf("%v to %v: %d to %d to %d, error %d", l[from], l[to], n, there, back, e)
		}
	}
}

// P8.1 to P8.5: arguments stay as they are, the memory behind them too.
func TestArguments(t *testing.T) {
	rates := append(wide(), api.Rate{Name: "behind", Micro: 7})
	n := []int{1, -2, 3, 4, 5, 6, 7, 8, 99}
	for _, length := range []int{0, 1, 2, api.MaxCur, api.MaxCur + 1} {
		l := slices.Clone(rates)
		amounts := slices.Clone(n)
		Check(l[:length])
		Find(l[:length], "eur")
		Convert(l[:length], 100, 1, 0, api.Half)
		Base(l[:length], 100, 1, api.Half)
		Cross(l[:length], 0, 1)
		Total(l[:length], amounts[:min(length, 3)], api.Half)
		if !slices.Equal(l, rates) || !slices.Equal(amounts, n) {
			t.Errorf("%d rates: %v, %v", length, l, amounts)
		}
	}
}
