package product

import (
	"fmt"
	"math"
	"math/big"
	"math/rand"
	"slices"
	"strings"
	"testing"

	"contango/api"
)

const (
	top  = api.MaxPrice
	lots = api.MaxQty
)

var modes = []int{api.Down, api.Up, api.Floor, api.Ceil, api.Half}

// noModes are ints that are not rounding modes.
var noModes = []int{0, 6, -1, 1 << 32, 1<<32 + 1, math.MinInt, math.MaxInt}

// noNames are texts that are not names.
var noNames = []string{"", "1", "1oil", "Oil", "oil ", " oil", "o l", "oil.", "oil\n", "-", "abcdefghijklm", "\xc3\xb6l", strings.Repeat("a", 10000)}

// oil is the product of the chapter's examples.
func oil() api.Product {
	return api.Product{Name: "oil", Cur: 0, Mult: 100, Tick: 5, Low: -50, High: 1000}
}

// fault makes a valid product invalid in one way.
type fault struct {
	what  string
	spoil func(p *api.Product)
	e     api.Errno
}

// faults are one for each error of Check, in their order.
func faults() []fault {
	return []fault{
		{"name", func(p *api.Product) { p.Name = "Oil" }, api.ErrName},
		{"currency", func(p *api.Product) { p.Cur = api.MaxCur }, api.ErrRate},
		{"mult", func(p *api.Product) { p.Mult = 0 }, api.ErrArg},
		{"tick", func(p *api.Product) { p.Tick = 0 }, api.ErrTick},
		{"low", func(p *api.Product) { p.Low = -51 }, api.ErrPrice},
	}
}

// many returns so many valid products with ascending names.
func many(n int) (l []api.Product) {
	for i := range n {
		p := oil()
		p.Name = fmt.Sprintf("p%04d", i)
		l = append(l, p)
	}
	return l
}

// randomProduct returns a valid product.
func randomProduct(r *rand.Rand) api.Product {
	name := "a"
	for range r.Intn(api.MaxName) {
		name += string("abcxyz0189"[r.Intn(10)])
	}
	p := api.Product{Name: name, Cur: r.Intn(api.MaxCur), Mult: 1 + r.Intn(api.MaxMult), Tick: 1 + r.Intn(top)>>r.Intn(25), Physical: r.Intn(2) == 0}
	most := top / p.Tick
	a, b := r.Intn(2*most+1)-most, r.Intn(2*most+1)-most
	p.Low, p.High = min(a, b)*p.Tick, max(a, b)*p.Tick
	return p
}

// products are valid ones: that of the examples, some at the bounds, and random ones.
func products() []api.Product {
	l := []api.Product{
		oil(),
		{Name: "a", Mult: 1, Tick: 1},
		{Name: "wide", Cur: api.MaxCur - 1, Mult: api.MaxMult, Tick: 1, Low: -top, High: top, Physical: true},
		{Name: "steep", Mult: api.MaxMult, Tick: top, Low: -top, High: top},
		{Name: "nought", Mult: 7, Tick: 3},
		{Name: "low", Mult: 7, Tick: 3, Low: -300, High: -30},
		{Name: "high", Mult: 7, Tick: 4, Low: 40, High: 400},
		{Name: "one", Mult: 7, Tick: 4, Low: 40, High: 40},
	}
	r := rand.New(rand.NewSource(9))
	for range 200 {
		l = append(l, randomProduct(r))
	}
	return l
}

// prices returns prices at the bounds of a product, at 0, at MaxPrice, and near them, and a few random ones; all are within 2 MaxPrice.
func prices(p api.Product, r *rand.Rand) (l []int) {
	for _, n := range []int{p.Low, p.High, 0, top, -top, p.Tick, -p.Tick} {
		for d := -3; d <= 3; d++ {
			l = append(l, n+d)
		}
		l = append(l, n+p.Tick/2, n-p.Tick/2, n+(p.Tick+1)/2)
	}
	for range 20 {
		l = append(l, r.Intn(2*top+1)-top)
	}
	return l
}

func check(t *testing.T, what string, n int, e api.Errno, wantN int, wantE api.Errno) {
	t.Helper()
	if n != wantN || e != wantE {
		t.Errorf("%s: %d, error %d; want %d, error %d", what, n, e, wantN, wantE)
	}
}

func checkError(t *testing.T, what string, e, want api.Errno) {
	t.Helper()
	if e != want {
		t.Errorf("%s: error %d; want %d", what, e, want)
	}
}

func checkParse(t *testing.T, s string, want api.Product, wantE api.Errno) {
	t.Helper()
	if p, e := Parse(s); p != want || e != wantE {
		t.Errorf("%q: %v, error %d; want %v, error %d", s, p, e, want, wantE)
	}
}

// P9.1
func TestCheck(t *testing.T) {
	for _, p := range products() {
		checkError(t, fmt.Sprint(p), Check(p), api.OK)
	}
	for _, c := range []struct {
		what  string
		spoil func(p *api.Product)
		want  api.Errno
	}{
		{"longest name", func(p *api.Product) { p.Name = "a23456789012" }, api.OK},
		{"first currency", func(p *api.Product) { p.Cur = 0 }, api.OK},
		{"last currency", func(p *api.Product) { p.Cur = 7 }, api.OK},
		{"currency below", func(p *api.Product) { p.Cur = -1 }, api.ErrRate},
		{"currency beyond", func(p *api.Product) { p.Cur = 8 }, api.ErrRate},
		{"least mult", func(p *api.Product) { p.Mult = 1 }, api.OK},
		{"greatest mult", func(p *api.Product) { p.Mult = 4096 }, api.OK},
		{"no mult", func(p *api.Product) { p.Mult = 0 }, api.ErrArg},
		{"negative mult", func(p *api.Product) { p.Mult = -1 }, api.ErrArg},
		{"mult beyond", func(p *api.Product) { p.Mult = 4097 }, api.ErrArg},
		{"least tick", func(p *api.Product) { p.Tick = 1 }, api.OK},
		{"greatest tick", func(p *api.Product) { p.Tick, p.Low, p.High = top, -top, top }, api.OK},
		{"no tick", func(p *api.Product) { p.Tick = 0 }, api.ErrTick},
		{"negative tick", func(p *api.Product) { p.Tick = -5 }, api.ErrTick},
		{"tick beyond", func(p *api.Product) { p.Tick, p.Low, p.High = top+1, 0, 0 }, api.ErrTick},
		{"low at the bound", func(p *api.Product) { p.Tick, p.Low = 1, -top }, api.OK},
		{"low below", func(p *api.Product) { p.Tick, p.Low = 1, -top-1 }, api.ErrPrice},
		{"low and high below", func(p *api.Product) { p.Tick, p.Low, p.High = 1, -top-2, -top-1 }, api.ErrPrice},
		{"high at the bound", func(p *api.Product) { p.Tick, p.High = 1, top }, api.OK},
		{"high beyond", func(p *api.Product) { p.Tick, p.High = 1, top+1 }, api.ErrPrice},
		{"low and high beyond", func(p *api.Product) { p.Tick, p.Low, p.High = 1, top+1, top+2 }, api.ErrPrice},
		{"low is high", func(p *api.Product) { p.Low, p.High = 15, 15 }, api.OK},
		{"both negative", func(p *api.Product) { p.Low, p.High = -15, -10 }, api.OK},
		{"low above high", func(p *api.Product) { p.Low, p.High = 15, 10 }, api.ErrPrice},
		{"negative low above high", func(p *api.Product) { p.Low, p.High = -10, -15 }, api.ErrPrice},
		{"low between ticks", func(p *api.Product) { p.Low = -49 }, api.ErrPrice},
		{"positive low between ticks", func(p *api.Product) { p.Low = 1 }, api.ErrPrice},
		{"high between ticks", func(p *api.Product) { p.High = 999 }, api.ErrPrice},
		{"negative high between ticks", func(p *api.Product) { p.High = -1 }, api.ErrPrice},
		{"both between ticks", func(p *api.Product) { p.Low, p.High = 7, 12 }, api.ErrPrice},
		{"physical", func(p *api.Product) { p.Physical = true }, api.OK},
	} {
		p := oil()
		c.spoil(&p)
		checkError(t, c.what, Check(p), c.want)
	}
	checkError(t, "the zero product", Check(api.Product{}), api.ErrName)
}

// P9.1: names that are none, and numbers at the ends of int.
func TestCheckFar(t *testing.T) {
	for _, name := range noNames {
		p := oil()
		p.Name = name
		checkError(t, name, Check(p), api.ErrName)
	}
	for _, n := range []int{math.MinInt, math.MinInt + 1, -1 << 32, 1 << 32, 1<<32 + 1, math.MaxInt - 1, math.MaxInt} {
		for want, p := range map[api.Errno]api.Product{
			api.ErrRate: {Name: "oil", Cur: n, Mult: 1, Tick: 1},
			api.ErrArg:  {Name: "oil", Mult: n, Tick: 1},
			api.ErrTick: {Name: "oil", Mult: 1, Tick: n},
		} {
			checkError(t, fmt.Sprint(p), Check(p), want)
		}
		for _, bounds := range [][2]int{{n, 0}, {0, n}, {n, n}, {n, -n}, {math.MinInt, n}, {n, math.MaxInt}} {
			p := api.Product{Name: "oil", Mult: 1, Tick: 1, Low: bounds[0], High: bounds[1]}
			checkError(t, fmt.Sprint(p), Check(p), api.ErrPrice)
		}
	}
}

// P9.1: of all combinations of faults the first one's error is returned.
func TestCheckOrder(t *testing.T) {
	for set := 1; set < 1<<len(faults()); set++ {
		p, want := oil(), api.OK
		for i, f := range faults() {
			if set>>i&1 == 1 {
				f.spoil(&p)
				if want == api.OK {
					want = f.e
				}
			}
		}
		checkError(t, fmt.Sprint(p), Check(p), want)
	}
}

// P9.2
func TestCheckAll(t *testing.T) {
	for _, n := range []int{0, 1, 2, api.MaxProducts - 1, api.MaxProducts} {
		checkError(t, fmt.Sprint(n, " products"), CheckAll(many(n)), api.OK)
	}
	for _, n := range []int{api.MaxProducts + 1, 2 * api.MaxProducts, 1000} {
		checkError(t, fmt.Sprint(n, " products"), CheckAll(many(n)), api.ErrLong)
	}
	checkError(t, "an empty list", CheckAll([]api.Product{}), api.OK)
}

// P9.2: a fault is found in whatever place it is.
func TestCheckAllPlaces(t *testing.T) {
	for i := range api.MaxProducts {
		for _, f := range faults() {
			l := many(api.MaxProducts)
			f.spoil(&l[i])
			checkError(t, fmt.Sprint(f.what, " at ", i), CheckAll(l), f.e)
		}
		if i == 0 {
			continue
		}
		l := many(api.MaxProducts)
		l[i].Name = l[i-1].Name
		checkError(t, fmt.Sprint("one name at ", i-1, i), CheckAll(l), api.ErrThere)
		l = many(api.MaxProducts)
		l[i-1], l[i] = l[i], l[i-1]
		checkError(t, fmt.Sprint("exchanged at ", i-1, i), CheckAll(l), api.ErrThere)
		l = many(api.MaxProducts)
		l[i] = l[i-1]
		checkError(t, fmt.Sprint("one product at ", i-1, i), CheckAll(l), api.ErrThere)
	}
}

// P9.2: names ascend byte by byte: digits are ahead of letters, and a name is ahead of those that it begins.
func TestCheckAllNames(t *testing.T) {
	for _, c := range []struct {
		names string
		want  api.Errno
	}{
		{"a b", api.OK},
		{"a a", api.ErrThere},
		{"b a", api.ErrThere},
		{"a a0", api.OK},
		{"a0 a", api.ErrThere},
		{"a0 aa", api.OK},
		{"aa a0", api.ErrThere},
		{"a10 a9", api.OK},
		{"a9 a10", api.ErrThere},
		{"b aa", api.ErrThere},
		{"a b a", api.ErrThere},
		{"a c b", api.ErrThere},
	} {
		var l []api.Product
		for _, name := range strings.Fields(c.names) {
			p := oil()
			p.Name = name
			l = append(l, p)
		}
		checkError(t, c.names, CheckAll(l), c.want)
	}
}

// P9.2: the number of products is checked first; then all of one product before the next one, and of one product the error of Check first.
func TestCheckAllOrder(t *testing.T) {
	long := many(api.MaxProducts + 1)
	long[0].Name, long[2].Name = "", long[1].Name
	checkError(t, "long, and wrong products", CheckAll(long), api.ErrLong)

	for _, f := range faults() {
		l := many(4)
		l[1].Name = l[0].Name
		f.spoil(&l[2])
		checkError(t, "there, then "+f.what, CheckAll(l), api.ErrThere)

		l = many(4)
		l[3].Name = l[2].Name
		f.spoil(&l[1])
		checkError(t, f.what+", then there", CheckAll(l), f.e)

		l = many(4)
		l[2].Name = l[1].Name
		f.spoil(&l[2])
		checkError(t, f.what+" and there", CheckAll(l), f.e)
		for _, later := range faults() {
			l = many(4)
			f.spoil(&l[1])
			later.spoil(&l[2])
			checkError(t, f.what+", then "+later.what, CheckAll(l), f.e)
		}
	}
}

// P9.2
func TestFind(t *testing.T) {
	l := many(api.MaxProducts)
	for i := range l {
		l[i].Mult = 1 + i
	}
	for _, want := range l {
		if p, ok := Find(l, want.Name); p != want || !ok {
			t.Errorf("%q: %v, %t", want.Name, p, ok)
		}
	}
	for _, name := range append(slices.Clone(noNames), "p", "p000", "p00000", "P0000", "p0000 ", "p0032") {
		if p, ok := Find(l, name); p != (api.Product{}) || ok {
			t.Errorf("%q: %v, %t", name, p, ok)
		}
	}
	if p, ok := Find(nil, "oil"); p != (api.Product{}) || ok {
		t.Errorf("in no products: %v, %t", p, ok)
	}
}

// P9.2: any list, and of the same names the first.
func TestFindAnyList(t *testing.T) {
	l := []api.Product{{Name: "z", Cur: -1}, {Name: "A b", Tick: -1}, {Name: "A b", Tick: 1}, {}, {Mult: 1}, {Name: "z", Cur: 3}}
	for name, want := range map[string]int{"z": 0, "A b": 1, "": 3} {
		if p, ok := Find(l, name); p != l[want] || !ok {
			t.Errorf("%q: %v, %t; want %v", name, p, ok, l[want])
		}
	}
	if p, ok := Find(many(1000), "p0999"); p.Name != "p0999" || !ok {
		t.Errorf("the last of many: %v, %t", p, ok)
	}
}

// P9.3
func TestPrice(t *testing.T) {
	for price := -200; price <= 1200; price++ {
		want := api.OK
		switch {
		case price < -50, price > 1000:
			want = api.ErrPrice // also between ticks
		case price != price/5*5:
			want = api.ErrTick
		}
		checkError(t, fmt.Sprint(price), Price(oil(), price), want)
	}
	wide := api.Product{Name: "wide", Mult: 1, Tick: 1, Low: -top, High: top}
	for price, want := range map[int]api.Errno{-top: api.OK, top: api.OK, 0: api.OK, -top - 1: api.ErrPrice, top + 1: api.ErrPrice, math.MinInt: api.ErrPrice, math.MaxInt: api.ErrPrice, 1 << 32: api.ErrPrice} {
		checkError(t, fmt.Sprint("wide ", price), Price(wide, price), want)
	}
	high := api.Product{Name: "high", Mult: 1, Tick: 3, Low: 30, High: 60}
	for price, want := range map[int]api.Errno{0: api.ErrPrice, -30: api.ErrPrice, 29: api.ErrPrice, 30: api.OK, 31: api.ErrTick, 60: api.OK, 61: api.ErrPrice, 63: api.ErrPrice} {
		checkError(t, fmt.Sprint("high ", price), Price(high, price), want)
	}
}

// P9.3, P9.4, P9.5: the error of Check is returned first, whatever else is wrong.
func TestCheckFirst(t *testing.T) {
	for _, f := range faults() {
		p := oil()
		f.spoil(&p)
		for _, price := range []int{0, 12, 15, 5000, math.MinInt, math.MaxInt} {
			checkError(t, f.what+" in Price", Price(p, price), f.e)
			for _, mode := range []int{api.Half, 0, 6} {
				n, e := Round(p, price, mode)
				check(t, f.what+" in Round", n, e, 0, f.e)
			}
			for _, qty := range []int{0, 1, lots + 1, math.MinInt} {
				n, e := Value(p, price, qty)
				check(t, f.what+" in Value", n, e, 0, f.e)
			}
		}
	}
}

// nearest rounds a price to a multiple of a tick by the modes' definitions: of the multiples on either side, by which is nearer to 0, or less, or nearer to the price.
func nearest(price, tick, mode int) int {
	below := price / tick * tick
	if below > price {
		below -= tick
	}
	above := below
	if below < price {
		above += tick
	}
	toZero, away := below, above
	if price < 0 {
		toZero, away = above, below
	}
	switch mode {
	case api.Down:
		return toZero
	case api.Up:
		return away
	case api.Floor:
		return below
	case api.Ceil:
		return above
	}
	switch {
	case price-below < above-price:
		return below
	case price-below > above-price:
		return above
	case below/tick%2 == 0:
		return below
	}
	return above
}

// P9.4
func TestRound(t *testing.T) {
	even := api.Product{Name: "even", Mult: 1, Tick: 4, Low: -40, High: 40}
	for _, c := range []struct {
		price int
		want  [5]int // Down, Up, Floor, Ceil, Half
	}{
		{0, [5]int{0, 0, 0, 0, 0}},
		{8, [5]int{8, 8, 8, 8, 8}},
		{-8, [5]int{-8, -8, -8, -8, -8}},
		{1, [5]int{0, 4, 0, 4, 0}},
		{2, [5]int{0, 4, 0, 4, 0}}, // ties go to an even number of ticks
		{3, [5]int{0, 4, 0, 4, 4}},
		{6, [5]int{4, 8, 4, 8, 8}},
		{10, [5]int{8, 12, 8, 12, 8}},
		{-1, [5]int{0, -4, -4, 0, 0}},
		{-2, [5]int{0, -4, -4, 0, 0}},
		{-6, [5]int{-4, -8, -8, -4, -8}},
		{39, [5]int{36, 40, 36, 40, 40}},
		{41, [5]int{40, 40, 40, 40, 40}},
		{-41, [5]int{-40, -40, -40, -40, -40}},
		{top, [5]int{40, 40, 40, 40, 40}},
		{-top, [5]int{-40, -40, -40, -40, -40}},
	} {
		for i, mode := range modes {
			n, e := Round(even, c.price, mode)
			check(t, fmt.Sprint(c.price, " by ", mode), n, e, c.want[i], api.OK)
		}
	}
}

// P9.4, P9.7: against the definitions; the result is a valid price, and a valid price stays as it is.
func TestRoundExactly(t *testing.T) {
	r := rand.New(rand.NewSource(94))
	for _, p := range products() {
		for _, price := range prices(p, r) {
			for _, mode := range modes {
				what := fmt.Sprint(p, price, mode)
				n, e := Round(p, price, mode)
				if price < -top || price > top {
					check(t, what, n, e, 0, api.ErrPrice)
					continue
				}
				want := max(p.Low, min(p.High, nearest(price, p.Tick, mode)))
				check(t, what, n, e, want, api.OK)
				checkError(t, what+" is a price", Price(p, n), api.OK)
				if Price(p, price) == api.OK {
					check(t, what+" stays", n, e, price, api.OK)
				}
			}
		}
	}
}

// P9.4: a price out of bounds is named ahead of a mode that is none.
func TestRoundErrors(t *testing.T) {
	for _, price := range []int{-top - 1, top + 1, -2 * top, 1 << 60, 1<<60 + 1, -1<<60 - 1, math.MinInt, math.MaxInt} {
		for _, mode := range append(slices.Clone(noModes), modes...) {
			n, e := Round(oil(), price, mode)
			check(t, fmt.Sprint(price, " by ", mode), n, e, 0, api.ErrPrice)
		}
	}
	for _, price := range []int{-top, -50, 0, 12, 15, 1000, top} {
		for _, mode := range noModes {
			n, e := Round(oil(), price, mode)
			check(t, fmt.Sprint(price, " by ", mode), n, e, 0, api.ErrArg)
		}
	}
}

// P9.5
func TestValue(t *testing.T) {
	wide := api.Product{Name: "wide", Cur: 3, Mult: api.MaxMult, Tick: top, Low: 0, High: 0, Physical: true}
	for _, c := range []struct {
		p          api.Product
		price, qty int
		want       int
	}{
		{oil(), 15, -2, -3000},
		{oil(), 15, 2, 3000},
		{oil(), -15, 2, -3000},
		{oil(), -15, -2, 3000},
		{oil(), 0, lots, 0},
		{oil(), 7, 0, 0},
		{oil(), 7, 1, 700},       // the price need not be a multiple of Tick
		{oil(), 5000, 1, 500000}, // nor between Low and High
		{oil(), -5000, 1, -500000},
		{wide, 2 * top, lots, 1 << 57},
		{wide, -2 * top, lots, -1 << 57},
		{wide, 2 * top, -lots, -1 << 57},
		{wide, -2 * top, -lots, 1 << 57},
	} {
		n, e := Value(c.p, c.price, c.qty)
		check(t, fmt.Sprint(c), n, e, c.want, api.OK)
	}
}

// P9.5: a price out of bounds is named ahead of a number of lots.
func TestValueErrors(t *testing.T) {
	noLots := []int{-lots - 1, lots + 1, 1 << 32, math.MinInt, math.MaxInt}
	for _, price := range []int{-2*top - 1, 2*top + 1, 1 << 32, math.MinInt, math.MaxInt} {
		for _, qty := range append(slices.Clone(noLots), 0, 1, lots) {
			n, e := Value(oil(), price, qty)
			check(t, fmt.Sprint(price, qty), n, e, 0, api.ErrPrice)
		}
	}
	for _, price := range []int{-2 * top, -1, 0, 15, 2 * top} {
		for _, qty := range noLots {
			n, e := Value(oil(), price, qty)
			check(t, fmt.Sprint(price, qty), n, e, 0, api.ErrQty)
		}
	}
}

// P9.5, P9.7: against numbers of any length; additive in the lots, whose sign is that of the value.
func TestValueExactly(t *testing.T) {
	r := rand.New(rand.NewSource(95))
	value := func(p api.Product, price, qty int) int {
		n, e := Value(p, price, qty)
		exact := new(big.Int).Mul(big.NewInt(int64(price)), big.NewInt(int64(qty)))
		exact.Mul(exact, big.NewInt(int64(p.Mult)))
		if !exact.IsInt64() || exact.CmpAbs(big.NewInt(api.MaxMoney)) > 0 {
			t.Fatalf("%v, %d, %d does not fit", p, price, qty)
		}
		check(t, fmt.Sprint(p, price, qty), n, e, int(exact.Int64()), api.OK)
		return n
	}
	for _, p := range products() {
		for range 50 {
			price := r.Intn(4*top+1) - 2*top
			a := r.Intn(2*lots+1) - lots
			b := r.Intn(lots-max(a, -a)+1) - r.Intn(lots-max(a, -a)+1)
			if value(p, price, a+b) != value(p, price, a)+value(p, price, b) || value(p, price, -a) != -value(p, price, a) {
				t.Errorf("%v: %d lots and %d lots at %d", p, a, b, price)
			}
		}
	}
}

// P9.6
func TestPrint(t *testing.T) {
	for _, c := range []struct {
		p    api.Product
		want string
	}{
		{oil(), "oil 0 100 5 -50 1000 cash"},
		{api.Product{Name: "gold1", Cur: 7, Mult: 4096, Tick: 16777216, Low: -16777216, High: 16777216, Physical: true}, "gold1 7 4096 16777216 -16777216 16777216 physical"},
		{api.Product{}, " 0 0 0 0 0 cash"}, // any product, valid or not
		{api.Product{Name: "A b", Cur: -1, Mult: math.MinInt, Tick: math.MaxInt, Low: 1, High: -1, Physical: true}, "A b -1 -9223372036854775808 9223372036854775807 1 -1 physical"},
	} {
		if s := Print(c.p); s != c.want {
			t.Errorf("%v: %q; want %q", c.p, s, c.want)
		}
	}
}

// P9.6
func TestParse(t *testing.T) {
	checkParse(t, "oil 0 100 5 -50 1000 cash", oil(), api.OK)
	checkParse(t, "a 7 1 1 0 0 physical", api.Product{Name: "a", Cur: 7, Mult: 1, Tick: 1, Physical: true}, api.OK)
	checkParse(t, "a23456789012 7 4096 16777216 -16777216 16777216 cash", api.Product{Name: "a23456789012", Cur: 7, Mult: 4096, Tick: top, Low: -top, High: top}, api.OK)
	checkParse(t, "a 1 2 3 -6 9 physical", api.Product{Name: "a", Cur: 1, Mult: 2, Tick: 3, Low: -6, High: 9, Physical: true}, api.OK)
}

// P9.6: what words.Fields does not accept, then what is not in form.
func TestParseForm(t *testing.T) {
	blanks := strings.Repeat(" ", api.MaxLine+1)
	for _, s := range []string{"oil 0 100 5 -50 1000 cash" + strings.Repeat("x", api.MaxLine-24), blanks, strings.Repeat("x", 100000), strings.Repeat("\n", api.MaxLine+1)} {
		checkParse(t, s, api.Product{}, api.ErrLong)
	}
	for _, s := range []string{
		"", " ", "oil", "oil 0 100 5 -50 1000", "0 100 5 -50 1000 cash", "oil 0 100 5 -50 cash", "oil 0 100 5 -50 1000 cash cash", "oil 0 100 5 -50 1000 0 cash",
		" oil 0 100 5 -50 1000 cash", "oil 0 100 5 -50 1000 cash ", "oil  0 100 5 -50 1000 cash", "oil 0 100 5 -50 1000  cash", " 0 100 5 -50 1000 cash",
		"oil\t0 100 5 -50 1000 cash", "oil 0 100 5 -50 1000 cash\n", "oil 0 100 5 -50 1000 c\x7fash", "\xc3\xb6l 0 100 5 -50 1000 cash",
		"oil 0 100 5 -50 1000 Cash", "oil 0 100 5 -50 1000 paper", "oil 0 100 5 -50 1000 1", "oil 0 100 5 -50 1000 cas", "oil 0 100 5 -50 1000 cashs", "oil 0 100 5 -50 1000 phys", "oil 0 100 5 -50 1000 Physical", "oil cash 0 100 5 -50 1000",
		strings.Repeat("x", api.MaxLine), strings.Repeat("x ", api.MaxLine/2-1) + "xx",
	} {
		checkParse(t, s, api.Product{}, api.ErrForm)
	}
}

// P9.6: every one of the five numbers must be one that words.Int accepts; one that is too large is ErrForm too.
func TestParseNumbers(t *testing.T) {
	for i := 1; i <= 5; i++ {
		for _, number := range []string{"x", "-", "+1", "-0", "00", "05", "1.0", "1e1", "0x1", "1x", "--1", "cash", "1152921504606846977", "-1152921504606846977", "9223372036854775808", strings.Repeat("9", 100)} {
			fields := strings.Fields("oil 0 100 5 -50 1000 cash")
			fields[i] = number
			checkParse(t, strings.Join(fields, " "), api.Product{}, api.ErrForm)
		}
	}
}

// P9.6: the error of Check comes last, even if the name is none.
func TestParseCheck(t *testing.T) {
	for s, want := range map[string]api.Errno{
		"Oil 0 100 5 -50 1000 cash":                    api.ErrName,
		"1 0 100 5 -50 1000 cash":                      api.ErrName,
		"abcdefghijklm 8 0 0 1 0 cash":                 api.ErrName,
		"oil 8 100 5 -50 1000 cash":                    api.ErrRate,
		"oil -1 0 0 1 0 cash":                          api.ErrRate,
		"oil 0 4097 5 -50 1000 cash":                   api.ErrArg,
		"oil 0 0 0 1 0 cash":                           api.ErrArg,
		"oil 0 100 0 -50 1000 cash":                    api.ErrTick,
		"oil 0 100 16777217 1 0 cash":                  api.ErrTick,
		"oil 0 100 5 -50 1001 physical":                api.ErrPrice,
		"oil 0 100 5 1000 -50 physical":                api.ErrPrice,
		"oil 0 100 1 0 16777217 physical":              api.ErrPrice,
		"oil 0 100 1 -1152921504606846976 0 physical":  api.ErrPrice,
		"oil 1152921504606846976 100 1 0 0 physical":   api.ErrRate,
		"Oil x 100 5 -50 1000 cash":                    api.ErrForm,
		"Oil 0 100 5 -50 1000 paper":                   api.ErrForm,
		"oil 8 100 5 -50 1000 paper":                   api.ErrForm,
		"oil 0 100 5 -50 9999999999999999999 physical": api.ErrForm,
		"Oil 0 100 5 -50 1000":                         api.ErrForm,
	} {
		checkParse(t, s, api.Product{}, want)
	}
}

// P9.8: a valid product is parsed as it was printed.
func TestPrintedIsParsed(t *testing.T) {
	for _, p := range products() {
		for range 2 {
			checkParse(t, Print(p), p, api.OK)
			p.Physical = !p.Physical
		}
	}
	for _, f := range faults() {
		p := oil()
		f.spoil(&p)
		checkParse(t, Print(p), api.Product{}, f.e)
	}
}

// P9.8: what Parse accepts is printed as the same string, however a line is changed.
func TestParsedIsPrinted(t *testing.T) {
	r := rand.New(rand.NewSource(98))
	const letters = "0123456789- aoilcshpyx\t."
	accepted := 0
	for range 200000 {
		b := []byte(Print(randomProduct(r)))
		for range r.Intn(3) {
			i := r.Intn(len(b))
			switch r.Intn(3) {
			case 0:
				b[i] = letters[r.Intn(len(letters))]
			case 1:
				b = slices.Delete(b, i, i+1)
			default:
				b = slices.Insert(b, i, letters[r.Intn(len(letters))])
			}
		}
		p, e := Parse(string(b))
		if e != api.OK {
			if p != (api.Product{}) {
				t.Errorf("%q: %v beside error %d", b, p, e)
			}
			continue
		}
		accepted++
		if Print(p) != string(b) || Check(p) != api.OK {
			t.Errorf("%q: %v, printed as %q", b, p, Print(p))
		}
	}
	if accepted < 50000 {
		t.Errorf("only %d lines are accepted", accepted)
	}
}

// P9.2: arguments stay as they are, the memory behind them too.
func TestArguments(t *testing.T) {
	all := many(api.MaxProducts + 2)
	all[3], all[4] = all[4], all[3]
	for _, length := range []int{0, 1, 2, 5, api.MaxProducts, api.MaxProducts + 1} {
		l := slices.Clone(all)
		CheckAll(l[:length])
		Find(l[:length], "p0003")
		Find(l[:length], "")
		if !slices.Equal(l, all) {
			t.Errorf("%d products: %v", length, l)
		}
	}
}

func TestExamples(t *testing.T) {
	p, e := Parse("oil 0 100 5 -50 1000 cash")
	if p != oil() || e != api.OK {
		t.Fatalf("%v, error %d", p, e)
	}
	for price, want := range map[int]api.Errno{15: api.OK, 12: api.ErrTick, 1005: api.ErrPrice} {
		checkError(t, fmt.Sprint("Price ", price), Price(p, price), want)
	}
	for _, c := range [][3]int{{12, api.Half, 10}, {13, api.Half, 15}, {12, api.Up, 15}, {2000, api.Down, 1000}} {
		n, e := Round(p, c[0], c[1])
		check(t, fmt.Sprint("Round ", c), n, e, c[2], api.OK)
	}
	n, e := Value(p, 15, -2)
	check(t, "Value", n, e, -3000, api.OK)
}
