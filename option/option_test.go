package option

import (
	"fmt"
	"math"
	"math/rand"
	"slices"
	"testing"

	"contango/api"
	"contango/position"
	"contango/product"
	"contango/series"
)

// far are ints that are not between -MaxPrice and MaxPrice.
var far = []int{math.MinInt, math.MinInt + 1, -1 << 32, -api.MaxPrice - 1, api.MaxPrice + 1, 1 << 32, 1<<32 + 1, math.MaxInt}

// farther are ints that are not between -2 MaxPrice and 2 MaxPrice.
var farther = []int{math.MinInt, math.MinInt + 1, -1 << 32, -2*api.MaxPrice - 1, 2*api.MaxPrice + 1, 1 << 32, 1<<32 + 1, math.MaxInt}

// noLots are ints that are not between -MaxQty and MaxQty.
var noLots = []int{math.MinInt, math.MinInt + 1, -1 << 32, -api.MaxQty - 1, api.MaxQty + 1, 1 << 32, 1<<32 + 1, math.MaxInt}

// noKinds are kinds of series that are neither futures nor options.
var noKinds = []int{0, 4, -1, -2, -3, 1<<32 + 2, math.MinInt, math.MaxInt}

// products are gas in currency 2, oil and tin in currency 0, and zinc, whose values are the greatest, in currency 7.
func products() []api.Product {
	return []api.Product{
		{Name: "gas", Cur: 2, Mult: 10, Tick: 1, High: 1000},
		{Name: "oil", Mult: 100, Tick: 1, High: 1000},
		{Name: "tin", Mult: 1, Tick: 1},
		{Name: "zinc", Cur: 7, Mult: api.MaxMult, Tick: 1},
	}
}

// named returns one of the products.
func named(name string) api.Product {
	p, _ := product.Find(products(), name)
	return p
}

func call(name string) api.Series {
	return api.Series{Product: name, Kind: api.Call, Expiry: 20, Strike: 50}
}

func put(name string) api.Series {
	return api.Series{Product: name, Kind: api.Put, Expiry: 20, Strike: 50}
}

func future(name string) api.Series {
	return api.Series{Product: name, Kind: api.Future, Expiry: 20}
}

// at returns the call on zinc with a strike; a greater n makes a greater one.
func at(n int) api.Series {
	return api.Series{Product: "zinc", Kind: api.Call, Expiry: 20, Strike: n}
}

// marks returns the prices of the calls and puts on gas, oil and tin.
func marks() []api.Mark {
	return []api.Mark{
		{Series: call("gas"), Price: 5}, {Series: put("gas"), Price: 2},
		{Series: call("oil"), Price: 7}, {Series: put("oil"), Price: 3},
		{Series: call("tin"), Price: 0}, {Series: put("tin"), Price: -4},
	}
}

func held(s api.Series, long, short int) api.Position {
	return api.Position{Series: s, Long: long, Short: short}
}

// bySeries returns positions in the order of their series.
func bySeries(l ...api.Position) []api.Position {
	slices.SortFunc(l, func(a, b api.Position) int { return series.Compare(a.Series, b.Series) })
	return l
}

// inCurs returns an amount for each currency from pairs of a currency and an amount.
func inCurs(pairs ...[2]int) []int {
	n := make([]int, api.MaxCur)
	for _, p := range pairs {
		n[p[0]] = p[1]
	}
	return n
}

// guarded returns a list with memory beyond its end, and a function that reports whether nothing of both has changed.
func guarded[T comparable](l []T, beyond T) (given []T, unchanged func() bool) {
	whole := append(slices.Clone(l), beyond, beyond)
	copied := slices.Clone(whole)
	return whole[:len(l)], func() bool { return slices.Equal(whole, copied) }
}

// checkNet holds what Net returns, and that it leaves its arguments as they are.
func checkNet(t *testing.T, what string, ps []api.Product, l []api.Position, ms []api.Mark, wantError api.Errno, want ...int) {
	t.Helper()
	ps, sameProducts := guarded(ps, named("tin"))
	l, samePositions := guarded(l, held(call("beyond"), 1, 2))
	ms, sameMarks := guarded(ms, api.Mark{Price: 901})
	n, e := Net(ps, l, ms)
	if !slices.Equal(n, want) || e != wantError {
		t.Errorf("%s: %v, error %d; want %v, error %d", what, n, e, want, wantError)
	}
	if !sameProducts() || !samePositions() || !sameMarks() {
		t.Errorf("%s: an argument has changed", what)
	}
}

func checkNumber(t *testing.T, what string, n int, e api.Errno, want int, wantError api.Errno) {
	t.Helper()
	if n != want || e != wantError {
		t.Errorf("%s: %d, error %d; want %d, error %d", what, n, e, want, wantError)
	}
}

// checkIntrinsic holds what Intrinsic and Ends return.
func checkIntrinsic(t *testing.T, s api.Series, under, want int) {
	t.Helper()
	if n := Intrinsic(s, under); n != want {
		t.Errorf("Intrinsic of %v at %d: %d; want %d", s, under, n, want)
	}
	if ok := Ends(s, under); ok != (want > 0) {
		t.Errorf("Ends of %v at %d: %t", s, under, ok)
	}
}

// checkPremium holds what Premium returns.
func checkPremium(t *testing.T, p api.Product, leg api.Leg, want int, wantError api.Errno) {
	t.Helper()
	n, e := Premium(p, leg)
	checkNumber(t, fmt.Sprintf("Premium of %v, %v", p, leg), n, e, want, wantError)
}

// P21.1
func TestIntrinsic(t *testing.T) {
	for _, c := range []struct{ under, call, put int }{
		{60, 10, 0}, {51, 1, 0}, {50, 0, 0}, {49, 0, 1}, {40, 0, 10}, {0, 0, 50}, {-10, 0, 60}, {1000000, 999950, 0},
	} {
		checkIntrinsic(t, call("oil"), c.under, c.call)
		checkIntrinsic(t, put("oil"), c.under, c.put)
	}
	low := api.Series{Kind: api.Call, Strike: -50}
	checkIntrinsic(t, low, -40, 10)
	checkIntrinsic(t, low, -60, 0)
	low.Kind = api.Put
	checkIntrinsic(t, low, -60, 10)
	checkIntrinsic(t, low, -40, 0)
	// Nothing but the kind and the strike matters.
	checkIntrinsic(t, api.Series{Product: "?", Kind: api.Call, Expiry: math.MinInt, Strike: 7}, 9, 2)
	checkIntrinsic(t, api.Series{Product: "?", Kind: api.Put, Expiry: math.MaxInt, Strike: 9}, 7, 2)
}

// P21.1: the price and the strike count as far as 2 MaxPrice from 0.
func TestIntrinsicClamped(t *testing.T) {
	const bound = 2 * api.MaxPrice
	ends := []int{-bound, -bound + 1, -api.MaxPrice - 1, -api.MaxPrice, -1, 0, 1, api.MaxPrice, api.MaxPrice + 1, bound - 1, bound}
	for _, under := range append(ends, farther...) {
		for _, strike := range append(ends, farther...) {
			price := max(-bound, min(bound, under)) - max(-bound, min(bound, strike))
			checkIntrinsic(t, api.Series{Kind: api.Call, Strike: strike}, under, max(0, price))
			checkIntrinsic(t, api.Series{Kind: api.Put, Strike: strike}, under, max(0, -price))
		}
	}
	checkIntrinsic(t, call("oil"), bound+1, bound-50)
	checkIntrinsic(t, put("oil"), -bound-1, bound+50)
	checkIntrinsic(t, api.Series{Kind: api.Call, Strike: math.MinInt}, math.MaxInt, 4*api.MaxPrice)
	checkIntrinsic(t, api.Series{Kind: api.Call, Strike: bound + 5}, bound+9, 0)
	checkIntrinsic(t, api.Series{Kind: api.Put, Strike: -bound - 5}, -bound-9, 0)
}

// P21.1: what is no option has no exercise value.
func TestIntrinsicOthers(t *testing.T) {
	for _, kind := range append(noKinds, api.Future) {
		for _, under := range []int{60, 50, 40, math.MinInt, math.MaxInt} {
			checkIntrinsic(t, api.Series{Product: "oil", Kind: kind, Expiry: 20, Strike: 50}, under, 0)
			checkIntrinsic(t, api.Series{Product: "oil", Kind: kind, Expiry: 20}, under, 0)
		}
	}
}

// P21.2
func TestPremium(t *testing.T) {
	for _, s := range []api.Series{call("oil"), put("oil"), call("gas"), {Product: "?", Kind: api.Put, Expiry: -1, Strike: math.MaxInt}} {
		for _, c := range []struct{ qty, price, want int }{{3, 4, 1200}, {-3, 4, -1200}, {0, 4, 0}, {3, 0, 0}, {3, -4, -1200}, {-3, -4, 1200}, {1, 2001, 200100}} {
			checkPremium(t, named("oil"), api.Leg{Series: s, Qty: c.qty, Price: c.price}, c.want, api.OK)
			whole := api.Leg{Acc: api.Acc{Member: "?"}, Series: s, Qty: c.qty, Price: c.price, Trade: math.MinInt}
			checkPremium(t, named("oil"), whole, c.want, api.OK)
		}
	}
	for _, price := range []int{2 * api.MaxPrice, -2 * api.MaxPrice} {
		for _, qty := range []int{api.MaxQty, -api.MaxQty} {
			checkPremium(t, named("zinc"), api.Leg{Series: call("zinc"), Qty: qty, Price: price}, price*qty*api.MaxMult, api.OK)
		}
	}
}

// invalid returns a product for each error of product.Check.
func invalid() map[api.Errno]api.Product {
	return map[api.Errno]api.Product{
		api.ErrName:  {Mult: 1, Tick: 1},
		api.ErrRate:  {Name: "a", Cur: api.MaxCur, Mult: 1, Tick: 1},
		api.ErrArg:   {Name: "a", Tick: 1},
		api.ErrTick:  {Name: "a", Mult: 1},
		api.ErrPrice: {Name: "a", Mult: 1, Tick: 1, Low: 1},
	}
}

// P21.2: the product first, then the price, then the lots, then the series.
func TestPremiumErrors(t *testing.T) {
	others := []api.Series{future("oil"), {}}
	for _, kind := range noKinds {
		others = append(others, api.Series{Product: "oil", Kind: kind, Expiry: 20, Strike: 50})
	}
	for _, s := range others {
		checkPremium(t, named("oil"), api.Leg{Series: s, Qty: 1, Price: 4}, 0, api.ErrSeries)
		checkPremium(t, named("oil"), api.Leg{Series: s}, 0, api.ErrSeries)
	}
	for _, s := range append(others, call("oil"), put("oil")) {
		for _, price := range farther {
			checkPremium(t, named("oil"), api.Leg{Series: s, Qty: 1, Price: price}, 0, api.ErrPrice)
			checkPremium(t, named("oil"), api.Leg{Series: s, Price: price}, 0, api.ErrPrice)
			checkPremium(t, named("oil"), api.Leg{Series: s, Qty: math.MaxInt, Price: price}, 0, api.ErrPrice)
		}
		for _, qty := range noLots {
			checkPremium(t, named("oil"), api.Leg{Series: s, Qty: qty, Price: 1}, 0, api.ErrQty)
			checkPremium(t, named("oil"), api.Leg{Series: s, Qty: qty}, 0, api.ErrQty)
		}
		for want, p := range invalid() {
			checkPremium(t, p, api.Leg{Series: s, Qty: 1, Price: 1}, 0, want)
			checkPremium(t, p, api.Leg{Series: s, Qty: math.MinInt, Price: math.MinInt}, 0, want)
		}
	}
}

// P21.3
func TestNet(t *testing.T) {
	for _, c := range []struct {
		what string
		l    []api.Position
		want []int
	}{
		{"nothing", nil, inCurs()},
		{"the example", []api.Position{held(call("oil"), 2, 0), held(put("oil"), 0, 1)}, inCurs([2]int{0, 1100})},
		{"bought", []api.Position{held(call("oil"), 2, 0)}, inCurs([2]int{0, 1400})},
		{"sold", []api.Position{held(call("oil"), 0, 2)}, inCurs([2]int{0, -1400})},
		{"both sides", []api.Position{held(call("oil"), 5, 2)}, inCurs([2]int{0, 2100})},
		{"as much on both sides", []api.Position{held(call("oil"), 5, 5)}, inCurs()},
		{"a price of 0", []api.Position{held(call("tin"), 5, 0)}, inCurs()},
		{"a price below 0", []api.Position{held(put("tin"), 5, 0)}, inCurs([2]int{0, -20})},
		{"two products of one currency", []api.Position{held(call("oil"), 2, 0), held(put("tin"), 5, 0)}, inCurs([2]int{0, 1380})},
		{"two currencies", []api.Position{held(call("gas"), 2, 0), held(put("gas"), 0, 1), held(put("oil"), 3, 0)}, inCurs([2]int{0, 900}, [2]int{2, 80})},
		{"the most lots", []api.Position{held(put("gas"), api.MaxQty, 0)}, inCurs([2]int{2, 20 * api.MaxQty})},
	} {
		checkNet(t, c.what, products(), c.l, marks(), api.OK, c.want...)
	}
	checkNet(t, "nothing at all", nil, nil, nil, api.OK, inCurs()...)
}

// P21.3: each option has the price of its own series, and its product by its name.
func TestNetSeries(t *testing.T) {
	base := call("oil")
	for _, other := range []api.Series{{Product: "oil", Kind: api.Call, Expiry: 20, Strike: 51}, {Product: "oil", Kind: api.Call, Expiry: 21, Strike: 50}, {Product: "oil", Kind: api.Put, Expiry: 20, Strike: 50}, {Product: "tin", Kind: api.Call, Expiry: 20, Strike: 50}} {
		both := []api.Mark{{Series: base, Price: 7}, {Series: other, Price: 11}}
		p := named(other.Product)
		checkNet(t, fmt.Sprint(other), products(), []api.Position{held(other, 3, 0)}, both, api.OK, inCurs([2]int{0, 33 * p.Mult})...)
		checkNet(t, fmt.Sprint("both with ", other), products(), []api.Position{held(base, 1, 0), held(other, 3, 0)}, both, api.OK, inCurs([2]int{0, 700 + 33*p.Mult})...)
		checkNet(t, fmt.Sprint("no price of ", other), products(), []api.Position{held(other, 3, 0)}, both[:1], api.ErrNone)
	}
	edge := []api.Series{{Product: "oil", Kind: api.Call, Expiry: math.MinInt, Strike: math.MaxInt}} // the series itself is not checked
	checkNet(t, "a series that may not be", products(), []api.Position{held(edge[0], 1, 0)}, []api.Mark{{Series: edge[0], Price: 1}}, api.OK, inCurs([2]int{0, 100})...)
	for _, price := range []int{-api.MaxPrice, api.MaxPrice} { // nor the price against the product
		checkNet(t, "the price farthest from 0", products(), []api.Position{held(call("oil"), 1, 0)}, []api.Mark{{Series: call("oil"), Price: price}}, api.OK, inCurs([2]int{0, 100 * price})...)
	}
}

// P21.3: every currency has its own total.
func TestNetCurrencies(t *testing.T) {
	var ps []api.Product
	var l []api.Position
	var ms []api.Mark
	want := inCurs()
	for cur := range api.MaxCur {
		for n := range 3 {
			name := fmt.Sprintf("p%d%d", n, cur)
			ps = append(ps, api.Product{Name: name, Cur: cur, Mult: 1, Tick: 1})
			l = append(l, held(call(name), cur+1, 0))
			ms = append(ms, api.Mark{Series: call(name), Price: 10 + n})
			want[cur] += (cur + 1) * (10 + n)
		}
	}
	slices.SortFunc(ps, func(a, b api.Product) int { return series.Compare(call(a.Name), call(b.Name)) })
	slices.SortFunc(ms, func(a, b api.Mark) int { return series.Compare(a.Series, b.Series) })
	checkNet(t, "all currencies", ps, bySeries(l...), ms, api.OK, want...)
}

// P21.3: what is no option is skipped.
func TestNetSkips(t *testing.T) {
	option := held(call("oil"), 2, 0)
	others := []api.Series{future("oil"), future("?"), {Product: "oil", Kind: api.Future, Expiry: 20, Strike: 50}}
	for _, kind := range noKinds {
		others = append(others, api.Series{Product: "oil", Kind: kind, Expiry: 20, Strike: 50})
	}
	for _, s := range others {
		checkNet(t, fmt.Sprint(s), products(), []api.Position{held(s, 9, 1)}, marks(), api.OK, inCurs()...)
		checkNet(t, fmt.Sprint(s, " and an option"), products(), bySeries(held(s, 9, 1), option), marks(), api.OK, inCurs([2]int{0, 1400})...)
		checkNet(t, fmt.Sprint(s, " without a product"), nil, []api.Position{held(s, 9, 1)}, nil, api.OK, inCurs()...)
		checkNet(t, fmt.Sprint(s, " with a price"), products(), []api.Position{held(s, 9, 1)}, []api.Mark{{Series: s, Price: 8}}, api.OK, inCurs()...)
		checkNet(t, fmt.Sprint(s, " without lots"), products(), []api.Position{held(s, 0, 0)}, marks(), api.ErrQty) // position.Check has it
	}
}

// netCase is what a test hands to Net.
type netCase struct {
	products []api.Product
	l        []api.Position
	marks    []api.Mark
}

// P21.3: the errors of whole lists, in their order, ahead of those of positions.
func TestNetErrors(t *testing.T) {
	twice := []api.Position{held(call("oil"), 1, 0), held(call("oil"), 1, 0)}
	steps := []struct {
		what  string
		spoil func(c *netCase)
		want  api.Errno
	}{
		{"too many products", func(c *netCase) { c.products = make([]api.Product, api.MaxProducts+1) }, api.ErrLong},
		{"an invalid product", func(c *netCase) { c.products = []api.Product{named("gas"), {Name: "oil", Mult: 1}} }, api.ErrTick},
		{"a product twice", func(c *netCase) { c.products = []api.Product{named("oil"), named("oil")} }, api.ErrThere},
		{"too many positions", func(c *netCase) { c.l = make([]api.Position, api.MaxSeries+1) }, api.ErrLong},
		{"a position twice", func(c *netCase) { c.l = twice }, api.ErrSeries},
		{"a position without lots", func(c *netCase) { c.l = []api.Position{held(call("oil"), 0, 0)} }, api.ErrQty},
		{"a position with too many lots", func(c *netCase) { c.l = []api.Position{held(call("oil"), api.MaxQty+1, 0)} }, api.ErrQty},
		{"too many marks", func(c *netCase) { c.marks = make([]api.Mark, api.MaxSeries+1) }, api.ErrLong},
		{"a mark twice", func(c *netCase) { c.marks = []api.Mark{{Series: call("oil")}, {Series: call("oil")}} }, api.ErrSeries},
		{"a mark too great", func(c *netCase) { c.marks = []api.Mark{{Series: call("oil"), Price: api.MaxPrice + 1}} }, api.ErrPrice},
		{"no such product", func(c *netCase) { c.l = []api.Position{held(call("lead"), 1, 0)} }, api.ErrSeries},
	}
	for i, s := range steps {
		for _, later := range steps[i:] {
			c := netCase{products(), []api.Position{held(call("oil"), 1, 0)}, marks()}
			later.spoil(&c)
			s.spoil(&c)
			checkNet(t, s.what+", "+later.what, c.products, c.l, c.marks, s.want)
		}
	}
	for want, p := range invalid() {
		checkNet(t, "an invalid product", []api.Product{p}, nil, nil, want)
	}
	for _, price := range far {
		checkNet(t, "a mark too great", products(), nil, []api.Mark{{Series: call("oil"), Price: price}}, api.ErrPrice)
	}
}

// P21.3: position by position; of one the product first, then the price.
func TestNetOrder(t *testing.T) {
	lead, silver, early := call("lead"), call("silver"), api.Series{Product: "oil", Kind: api.Call}
	for _, c := range []struct {
		what string
		l    []api.Position
		want api.Errno
	}{
		{"no such product", []api.Position{held(lead, 1, 0)}, api.ErrSeries},
		{"no such product, no lots on balance", []api.Position{held(lead, 1, 1)}, api.ErrSeries},
		{"no such price", []api.Position{held(early, 1, 0)}, api.ErrNone},
		{"no such price, no lots on balance", []api.Position{held(early, 1, 1)}, api.ErrNone},
		{"a product, then a price", []api.Position{held(lead, 1, 0), held(early, 1, 0)}, api.ErrSeries},
		{"a price, then a product", []api.Position{held(early, 1, 0), held(silver, 1, 0)}, api.ErrNone},
		{"a product after others", []api.Position{held(call("gas"), 1, 0), held(call("oil"), 1, 0), held(silver, 1, 0)}, api.ErrSeries},
		{"a price after a future", []api.Position{held(future("gas"), 1, 0), held(early, 1, 0)}, api.ErrNone},
	} {
		checkNet(t, c.what, products(), c.l, marks(), c.want)
	}
	checkNet(t, "no such product, with a price", products(), []api.Position{held(lead, 1, 0)}, []api.Mark{{Series: lead, Price: 1}}, api.ErrSeries)
}

// greatest returns so many positions in calls on zinc, of which each is worth 2^56, and their prices.
func greatest(n int) (l []api.Position, ms []api.Mark) {
	for i := range n {
		l = append(l, held(at(i), api.MaxQty, 0))
		ms = append(ms, api.Mark{Series: at(i), Price: api.MaxPrice})
	}
	return l, ms
}

// P21.3: the sum is exact, whatever its parts are; ErrOver comes last.
func TestNetOver(t *testing.T) {
	l, ms := greatest(api.MaxSeries)
	checkNet(t, "one", products(), l[:1], ms, api.OK, inCurs([2]int{7, 1 << 56})...)
	checkNet(t, "the most that fits", products(), l[:16], ms, api.OK, inCurs([2]int{7, api.MaxMoney})...)
	for _, n := range []int{17, 32, 64, 127, 128} { // 2^63 is no int any more
		checkNet(t, fmt.Sprint(n), products(), l[:n], ms, api.ErrOver)
		checkNet(t, fmt.Sprint(n, " sold"), products(), swapped(l[:n]), ms, api.ErrOver)
	}
	checkNet(t, "the least that fits", products(), swapped(l[:16]), ms, api.OK, inCurs([2]int{7, -api.MaxMoney})...)
	half := slices.Concat(l[:64], swapped(l[64:]))
	checkNet(t, "up and down", products(), half, ms, api.OK, inCurs()...)
	checkNet(t, "down and up", products(), swapped(half), ms, api.OK, inCurs()...)
	most := slices.Concat(l[:72], swapped(l[72:]))
	checkNet(t, "up, and down to the bound", products(), most, ms, api.OK, inCurs([2]int{7, api.MaxMoney})...)
	checkNet(t, "down, and up to the bound", products(), swapped(most), ms, api.OK, inCurs([2]int{7, -api.MaxMoney})...)
	cents := []api.Product{{Name: "tin", Cur: 7, Mult: 1, Tick: 1}, named("zinc")}
	withTin := append([]api.Mark{{Series: call("tin"), Price: 1}}, ms[:16]...)
	bought, sold := held(call("tin"), 1, 0), held(call("tin"), 0, 1)
	checkNet(t, "a cent more", cents, append([]api.Position{bought}, l[:16]...), withTin, api.ErrOver)
	checkNet(t, "a cent less", cents, append([]api.Position{sold}, l[:16]...), withTin, api.OK, inCurs([2]int{7, api.MaxMoney - 1})...)
	checkNet(t, "a cent below the least", cents, append([]api.Position{sold}, swapped(l[:16])...), withTin, api.ErrOver)
	checkNet(t, "a cent in another currency", products(), append([]api.Position{bought}, l[:16]...), withTin, api.OK, inCurs([2]int{0, 1}, [2]int{7, api.MaxMoney})...)
	checkNet(t, "too much, then no price", products(), l[:17], ms[:16], api.ErrNone)
	last := call("zz")
	checkNet(t, "too much, then no product", products(), append(slices.Clone(l[:17]), held(last, 1, 0)), ms, api.ErrSeries)
}

// P21.3: no list of a result is kept.
func TestNetNewMemory(t *testing.T) {
	l := []api.Position{held(call("oil"), 2, 0)}
	first, _ := Net(products(), l, marks())
	first[0] = -1
	checkNet(t, "again", products(), l, marks(), api.OK, inCurs([2]int{0, 1400})...)
}

// P21.4
func TestParity(t *testing.T) {
	const most = api.MaxPrice
	for _, c := range []struct{ call, put, strike, future, want int }{
		{10, 3, 50, 55, 2}, {0, 0, 0, 0, 0}, {1, 0, 0, 0, 1}, {0, 1, 0, 0, -1}, {0, 0, 1, 0, 1}, {0, 0, 0, 1, -1},
		{10, 0, 50, 60, 0}, {0, 10, 50, 40, 0}, {-10, -3, -50, -55, -2},
		{most, -most, most, -most, 4 * most}, {-most, most, -most, most, -4 * most}, {most, most, most, most, 0}, {-most, -most, -most, -most, 0},
	} {
		n, e := Parity(c.call, c.put, c.strike, c.future)
		checkNumber(t, fmt.Sprint("Parity of ", c), n, e, c.want, api.OK)
	}
	for _, price := range far {
		for i := range 4 {
			for _, rest := range []int{0, 7, -most, most} {
				l := [4]int{rest, rest, rest, rest}
				l[i] = price
				n, e := Parity(l[0], l[1], l[2], l[3])
				checkNumber(t, fmt.Sprint("Parity of ", l), n, e, 0, api.ErrPrice)
			}
		}
		n, e := Parity(price, price, price, price)
		checkNumber(t, fmt.Sprint("Parity of ", price, " each"), n, e, 0, api.ErrPrice)
	}
}

// checkParts holds what Parts returns, that it leaves its argument as it is, and that the results are memory of their own.
func checkParts(t *testing.T, l, wantFutures, wantOptions []api.Position) {
	t.Helper()
	given, unchanged := guarded(l, held(call("beyond"), 1, 2))
	futures, options := Parts(given)
	if !slices.Equal(futures, wantFutures) || !slices.Equal(options, wantOptions) {
		t.Errorf("Parts of %v: %v and %v; want %v and %v", l, futures, options, wantFutures, wantOptions)
	}
	for _, part := range [][]api.Position{futures, options} {
		for i := range part {
			part[i] = held(put("changed"), 8, 9)
		}
		_ = append(part, held(put("appended"), 8, 9))
	}
	if !unchanged() {
		t.Errorf("Parts of %v: the argument has changed", l)
	}
	if len(wantFutures) > 0 && len(wantOptions) > 0 {
		futures, options = Parts(given)
		_ = append(futures, futures...)
		if !slices.Equal(options, wantOptions) {
			t.Errorf("Parts of %v: the results share memory", l)
		}
	}
}

// P21.5
func TestParts(t *testing.T) {
	f, c, p := held(future("oil"), 9, 0), held(call("oil"), 2, 0), held(put("oil"), 0, 1)
	g := held(future("gas"), 0, 0)
	odd := held(api.Series{Product: "?", Kind: api.Put, Expiry: -1}, math.MinInt, math.MaxInt)
	checkParts(t, nil, nil, nil)
	checkParts(t, []api.Position{f}, []api.Position{f}, nil)
	checkParts(t, []api.Position{c}, nil, []api.Position{c})
	checkParts(t, []api.Position{p}, nil, []api.Position{p})
	checkParts(t, []api.Position{f, c, p}, []api.Position{f}, []api.Position{c, p})
	checkParts(t, []api.Position{p, f, c, g}, []api.Position{f, g}, []api.Position{p, c})
	checkParts(t, []api.Position{p, p, g, c, g, f, odd, p}, []api.Position{g, g, f}, []api.Position{p, p, c, odd, p})
	for _, kind := range noKinds {
		none := held(api.Series{Product: "oil", Kind: kind, Expiry: 20}, 1, 2)
		checkParts(t, []api.Position{none}, nil, nil)
		checkParts(t, []api.Position{none, p, none, f, none}, []api.Position{f}, []api.Position{p})
	}
	const many = 5000
	checkParts(t, slices.Repeat([]api.Position{c, f, p, {}}, many), slices.Repeat([]api.Position{f}, many), slices.Repeat([]api.Position{c, p}, many))
}

// P21.5
func TestUnder(t *testing.T) {
	for _, name := range []string{"oil", "", "?"} {
		for _, expiry := range []int{20, 0, -1, math.MaxInt} {
			for _, strike := range []int{50, 0, -50, math.MinInt} {
				want := api.Series{Product: name, Kind: api.Future, Expiry: expiry}
				for _, kind := range append(noKinds, api.Call, api.Put) {
					s := api.Series{Product: name, Kind: kind, Expiry: expiry, Strike: strike}
					if f := Under(s); f != want {
						t.Errorf("Under of %v: %v", s, f)
					}
				}
				s := api.Series{Product: name, Kind: api.Future, Expiry: expiry, Strike: strike}
				if f := Under(s); f != s {
					t.Errorf("Under of %v: %v", s, f)
				}
			}
		}
	}
}

// P21.6: the parity holds for exercise values, and at most one of a call and a put with one strike ends.
func TestParityOfIntrinsics(t *testing.T) {
	r := rand.New(rand.NewSource(216))
	const half = api.MaxPrice / 2
	for i := range 5000 {
		strike, under := r.Intn(2*half+1)-half, r.Intn(2*half+1)-half
		if i%3 == 0 {
			under = strike + r.Intn(5) - 2
		}
		c := api.Series{Product: "oil", Kind: api.Call, Expiry: 9, Strike: strike}
		p := c
		p.Kind = api.Put
		n, e := Parity(Intrinsic(c, under), Intrinsic(p, under), strike, under)
		checkNumber(t, fmt.Sprint("strike ", strike, ", future ", under), n, e, 0, api.OK)
	}
	for i := range 2000 {
		strike, under := int(r.Uint64())>>r.Intn(64), int(r.Uint64())>>r.Intn(64)
		if i%3 == 0 {
			under = strike
		}
		c, p := api.Series{Kind: api.Call, Strike: strike}, api.Series{Kind: api.Put, Strike: strike}
		if Ends(c, under) && Ends(p, under) {
			t.Errorf("strike %d, future %d: both end", strike, under)
		}
		if i%3 == 0 && (Ends(c, under) || Ends(p, under)) {
			t.Errorf("strike and future %d: one ends", strike)
		}
	}
}

// swapped returns positions with exchanged sides.
func swapped(l []api.Position) (out []api.Position) {
	for _, p := range l {
		out = append(out, held(p.Series, p.Short, p.Long))
	}
	return out
}

// randomMarket returns positions in futures and options, and the prices of all their series.
func randomMarket(r *rand.Rand) (l []api.Position, ms []api.Mark) {
	at := map[api.Series]bool{}
	for range r.Intn(30) {
		s := api.Series{Product: products()[r.Intn(4)].Name, Kind: 1 + r.Intn(3), Expiry: r.Intn(3), Strike: r.Intn(3)}
		if at[s] {
			continue
		}
		at[s] = true
		l = append(l, held(s, r.Intn(api.MaxQty), 1+r.Intn(api.MaxQty)))
		ms = append(ms, api.Mark{Series: s, Price: r.Intn(2*api.MaxPrice+1) - api.MaxPrice})
	}
	slices.SortFunc(ms, func(a, b api.Mark) int { return series.Compare(a.Series, b.Series) })
	return bySeries(l...), ms
}

// P21.3, P21.7: random positions against the definition; exchanged sides negate the value, and futures do not affect it.
func TestNetRandom(t *testing.T) {
	r := rand.New(rand.NewSource(217))
	for range 1000 {
		l, ms := randomMarket(r)
		want := inCurs()
		for _, p := range l {
			if p.Series.Kind == api.Future {
				continue
			}
			i := slices.IndexFunc(ms, func(m api.Mark) bool { return m.Series == p.Series })
			of := named(p.Series.Product)
			want[of.Cur] += ms[i].Price * of.Mult * position.Net(p)
		}
		checkNet(t, fmt.Sprint(l), products(), l, ms, api.OK, want...)
		_, options := Parts(l)
		checkNet(t, fmt.Sprint("without futures, ", l), products(), options, ms, api.OK, want...)
		for i := range want {
			want[i] = -want[i]
		}
		checkNet(t, fmt.Sprint("with exchanged sides, ", l), products(), swapped(l), ms, api.OK, want...)
	}
}
