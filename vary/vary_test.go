package vary

import (
	"fmt"
	"math"
	"math/big"
	"math/rand"
	"slices"
	"strings"
	"testing"

	"contango/api"
	"contango/novate"
	"contango/position"
	"contango/product"
	"contango/series"
)

// far are ints that are not between -MaxPrice and MaxPrice.
var far = []int{math.MinInt, math.MinInt + 1, -1 << 32, -api.MaxPrice - 1, api.MaxPrice + 1, 1 << 32, 1<<32 + 1, math.MaxInt}

// noLots are ints that are not between -MaxQty and MaxQty.
var noLots = []int{math.MinInt, math.MinInt + 1, -1 << 32, -api.MaxQty - 1, api.MaxQty + 1, 1 << 32, 1<<32 + 1, math.MaxInt}

var (
	alfa   = api.Acc{Member: "alfa", Name: "house"}
	alfaA  = api.Acc{Member: "alfa", Name: "a"}
	bravo  = api.Acc{Member: "bravo", Name: "house"}
	bravoA = api.Acc{Member: "bravo", Name: "a"}
)

// products are gas in currency 2, oil in currency 0, tin in currency 0 and zinc, whose values are the greatest, in currency 7.
func products() []api.Product {
	return []api.Product{
		{Name: "gas", Cur: 2, Mult: 10, Tick: 1, High: 1000},
		{Name: "oil", Mult: 100, Tick: 5, Low: -1000, High: 1000},
		{Name: "tin", Mult: 1, Tick: 1},
		{Name: "zinc", Cur: 7, Mult: api.MaxMult, Tick: 1},
	}
}

// named returns one of the products.
func named(name string) api.Product {
	p, _ := product.Find(products(), name)
	return p
}

func future(name string) api.Series {
	return api.Series{Product: name, Kind: api.Future, Expiry: 9}
}

// month returns a future on zinc; a greater n makes a greater one.
func month(n int) api.Series {
	return api.Series{Product: "zinc", Kind: api.Future, Expiry: n}
}

func option(name string) api.Series {
	return api.Series{Product: name, Kind: api.Call, Expiry: 9, Strike: 40}
}

// sorted returns marks in the order of their series.
func sorted(l ...api.Mark) []api.Mark {
	slices.SortFunc(l, func(a, b api.Mark) int { return series.Compare(a.Series, b.Series) })
	return l
}

// before returns the prices of the day before; zinc is at the least one.
func before() []api.Mark {
	return []api.Mark{{Series: future("gas"), Price: 5}, {Series: future("oil"), Price: 50}, {Series: future("tin"), Price: -3}, {Series: future("zinc"), Price: -api.MaxPrice}}
}

// now returns the prices of the day; zinc is at the greatest one.
func now() []api.Mark {
	return []api.Mark{{Series: future("gas"), Price: 7}, {Series: future("oil"), Price: 47}, {Series: future("tin"), Price: 1}, {Series: future("zinc"), Price: api.MaxPrice}}
}

func without(l []api.Mark, s api.Series) []api.Mark {
	return slices.DeleteFunc(l, func(m api.Mark) bool { return m.Series == s })
}

func held(s api.Series, long, short int) api.Position {
	return api.Position{Series: s, Long: long, Short: short}
}

// traded returns a leg of alfa.
func traded(s api.Series, qty, price int) api.Leg {
	return api.Leg{Acc: alfa, Series: s, Qty: qty, Price: price}
}

// by returns the leg as one of another account.
func by(acc api.Acc, leg api.Leg) api.Leg {
	leg.Acc = acc
	return leg
}

func holding(acc api.Acc, l ...api.Position) api.Holding {
	return api.Holding{Acc: acc, Positions: l}
}

func gets(member string, cur, cents int) api.Flow {
	return api.Flow{Member: member, Cur: cur, Cents: cents, Why: api.WhyVary}
}

// inCurs returns an amount for each currency from pairs of a currency and an amount.
func inCurs(pairs ...[2]int) []int {
	n := make([]int, api.MaxCur)
	for _, p := range pairs {
		n[p[0]] = p[1]
	}
	return n
}

// guarded returns a list with memory beyond its end, and a function that reports whether nothing of both has changed.
func guarded[T comparable](l []T, beyond T) (given []T, unchanged func() bool) {
	whole := append(slices.Clone(l), beyond, beyond)
	copied := slices.Clone(whole)
	return whole[:len(l)], func() bool { return slices.Equal(whole, copied) }
}

// guardedHoldings does so for holdings and their positions.
func guardedHoldings(l []api.Holding) (given []api.Holding, unchanged func() bool) {
	var all []func() bool
	for _, h := range l {
		positions, same := guarded(h.Positions, held(future("beyond"), 1, 2))
		given = append(given, holding(h.Acc, positions...))
		given[len(given)-1].Positions = positions
		all = append(all, same)
	}
	count := len(given)
	given = append(given, holding(bravo), holding(alfa))
	return given[:count], func() bool {
		for i, same := range all {
			if !same() || given[i].Acc != l[i].Acc || len(given[i].Positions) != len(l[i].Positions) {
				return false
			}
		}
		rest := given[count : count+2]
		return rest[0].Acc == bravo && rest[1].Acc == alfa
	}
}

func checkError(t *testing.T, what string, e, want api.Errno) {
	t.Helper()
	if e != want {
		t.Errorf("%s: error %d; want %d", what, e, want)
	}
}

func checkNumber(t *testing.T, what string, n int, e api.Errno, want int, wantError api.Errno) {
	t.Helper()
	if n != want || e != wantError {
		t.Errorf("%s: %d, error %d; want %d, error %d", what, n, e, want, wantError)
	}
}

// day is what a test hands in.
type day struct {
	products []api.Product
	held     []api.Position
	holdings []api.Holding
	legs     []api.Leg
	before   []api.Mark
	now      []api.Mark
}

// given returns a day without positions and legs after some changes.
func given(changes ...func(d *day)) day {
	d := day{products: products(), before: before(), now: now()}
	for _, change := range changes {
		change(&d)
	}
	return d
}

func positions(l ...api.Position) func(d *day) {
	return func(d *day) { d.held = l }
}

func holdings(l ...api.Holding) func(d *day) {
	return func(d *day) { d.holdings = l }
}

func legs(l ...api.Leg) func(d *day) {
	return func(d *day) { d.legs = l }
}

func priced(before, now []api.Mark) func(d *day) {
	return func(d *day) { d.before, d.now = before, now }
}

func made(l ...api.Product) func(d *day) {
	return func(d *day) { d.products = l }
}

// guard puts memory beyond the ends of all lists of a day.
func (d day) guard() (given day, unchanged func() bool) {
	var same [6]func() bool
	d.products, same[0] = guarded(d.products, named("tin"))
	d.held, same[1] = guarded(d.held, held(future("beyond"), 1, 2))
	d.holdings, same[2] = guardedHoldings(d.holdings)
	d.legs, same[3] = guarded(d.legs, traded(future("beyond"), 1, 2))
	d.before, same[4] = guarded(d.before, api.Mark{Price: 901})
	d.now, same[5] = guarded(d.now, api.Mark{Price: 902})
	return d, func() bool {
		return !slices.ContainsFunc(same[:], func(f func() bool) bool { return !f() })
	}
}

// checkAccount holds what Account returns for the positions and legs of a day, and that it leaves them as they are.
func checkAccount(t *testing.T, what string, d day, wantError api.Errno, want ...int) {
	t.Helper()
	d, unchanged := d.guard()
	n, e := Account(d.products, d.held, d.legs, d.before, d.now)
	checkError(t, what+": Account", e, wantError)
	if !slices.Equal(n, want) {
		t.Errorf("%s: Account: %v; want %v", what, n, want)
	}
	if !unchanged() {
		t.Errorf("%s: Account: an argument has changed", what)
	}
}

// checkAll holds what All returns for the holdings and legs of a day, and that it leaves them as they are.
func checkAll(t *testing.T, what string, d day, wantError api.Errno, want ...api.Flow) {
	t.Helper()
	d, unchanged := d.guard()
	l, e := All(d.products, d.holdings, d.legs, d.before, d.now)
	checkError(t, what+": All", e, wantError)
	if !slices.Equal(l, want) {
		t.Errorf("%s: All: %v; want %v", what, l, want)
	}
	if !unchanged() {
		t.Errorf("%s: All: an argument has changed", what)
	}
}

// checkBad holds an error that Account returns for a day, and All for the day with the positions held by alfa.
func checkBad(t *testing.T, what string, d day, want api.Errno) {
	t.Helper()
	checkAccount(t, what, d, want)
	d.holdings = []api.Holding{holding(alfa, d.held...)}
	checkAll(t, what, d, want)
}

// P20.1
func TestCarried(t *testing.T) {
	for _, c := range []struct {
		p                api.Product
		net, before, now int
		want             int
	}{
		{named("oil"), 3, 50, 47, -900}, {named("oil"), -3, 50, 47, 900}, {named("oil"), 3, 47, 50, 900}, {named("oil"), -3, 47, 50, -900},
		{named("oil"), 0, 50, 47, 0}, {named("oil"), 3, 50, 50, 0}, {named("oil"), 2, -4, 4, 1600}, {named("oil"), 2, 4, -4, -1600},
		{named("gas"), 4, 5, 7, 80}, {named("oil"), 1, 2001, 2002, 100}, // prices need not be the product's
		{named("zinc"), api.MaxQty, -api.MaxPrice, api.MaxPrice, 1 << 57}, {named("zinc"), -api.MaxQty, -api.MaxPrice, api.MaxPrice, -1 << 57},
		{named("zinc"), api.MaxQty, api.MaxPrice, -api.MaxPrice, -1 << 57}, {named("tin"), 1, api.MaxPrice, api.MaxPrice, 0},
	} {
		what := fmt.Sprintf("%d of %s from %d to %d", c.net, c.p.Name, c.before, c.now)
		n, e := Carried(c.p, c.net, c.before, c.now)
		checkNumber(t, what+": Carried", n, e, c.want, api.OK)
		n, e = Fresh(c.p, api.Leg{Qty: c.net, Price: c.before}, c.now)
		checkNumber(t, what+": Fresh", n, e, c.want, api.OK)
	}
}

// P20.1, P20.2: the product first, then the prices, then the lots.
func TestCarriedFreshErrors(t *testing.T) {
	check := func(what string, p api.Product, net, before, now int, want api.Errno) {
		t.Helper()
		n, e := Carried(p, net, before, now)
		checkNumber(t, fmt.Sprintf("%s: Carried of %d from %d to %d", what, net, before, now), n, e, 0, want)
		n, e = Fresh(p, api.Leg{Qty: net, Price: before}, now)
		checkNumber(t, fmt.Sprintf("%s: Fresh of %d at %d to %d", what, net, before, now), n, e, 0, want)
	}
	oil := named("oil")
	for _, price := range far {
		check("before", oil, 1, price, 0, api.ErrPrice)
		check("now", oil, 1, 0, price, api.ErrPrice)
		check("both, no change", oil, 1, price, price, api.ErrPrice)
		check("before, no lots", oil, 0, price, 0, api.ErrPrice)
		for _, lots := range noLots {
			check("before and lots", oil, lots, price, 0, api.ErrPrice)
			check("now and lots", oil, lots, 0, price, api.ErrPrice)
		}
	}
	for _, lots := range noLots {
		check("lots", oil, lots, 1, 2, api.ErrQty)
		check("lots, no change", oil, lots, 1, 1, api.ErrQty)
	}
	for want, p := range invalid() {
		check("a product", p, 1, 2, 3, want)
		check("a product, a price and lots", p, math.MaxInt, math.MaxInt, math.MinInt, want)
	}
}

// invalid returns a product for each error of product.Check.
func invalid() map[api.Errno]api.Product {
	return map[api.Errno]api.Product{
		api.ErrName:  {Mult: 1, Tick: 1},
		api.ErrRate:  {Name: "a", Cur: api.MaxCur, Mult: 1, Tick: 1},
		api.ErrArg:   {Name: "a", Tick: 1},
		api.ErrTick:  {Name: "a", Mult: 1},
		api.ErrPrice: {Name: "a", Mult: 1, Tick: 1, Low: 1},
	}
}

// P20.2: nothing but the Price and the Qty of the leg matters.
func TestFresh(t *testing.T) {
	for _, leg := range []api.Leg{
		traded(future("oil"), -2, 45),
		traded(future("gas"), -2, 45),
		traded(option("oil"), -2, 45),
		{Qty: -2, Price: 45},
		{Acc: api.Acc{Member: "?"}, Series: api.Series{Product: "?", Kind: -1, Expiry: -1, Strike: math.MinInt}, Qty: -2, Price: 45, Trade: -1},
	} {
		n, e := Fresh(named("oil"), leg, 47)
		checkNumber(t, fmt.Sprint(leg), n, e, -400, api.OK)
	}
}

// P20.3
func TestAccount(t *testing.T) {
	gas, oil, tin := future("gas"), future("oil"), future("tin")
	for _, c := range []struct {
		what string
		d    day
		want []int
	}{
		{"nothing", given(), inCurs()},
		{"nothing at all", day{}, inCurs()},
		{"held", given(positions(held(oil, 3, 0))), inCurs([2]int{0, -900})},
		{"held, sold", given(positions(held(oil, 0, 3))), inCurs([2]int{0, 900})},
		{"held, both sides", given(positions(held(oil, 5, 2))), inCurs([2]int{0, -900})},
		{"held, as much on both sides", given(positions(held(oil, 5, 5))), inCurs()},
		{"two of one currency", given(positions(held(oil, 3, 0), held(tin, 7, 0))), inCurs([2]int{0, -900 + 28})},
		{"two currencies", given(positions(held(gas, 0, 4), held(oil, 3, 0))), inCurs([2]int{2, -80}, [2]int{0, -900})},
		{"bought", given(legs(traded(oil, 2, 45))), inCurs([2]int{0, 400})},
		{"sold", given(legs(traded(oil, -2, 45))), inCurs([2]int{0, -400})},
		{"at the new price", given(legs(traded(oil, -2, 47))), inCurs()},
		{"no lots", given(legs(traded(oil, 0, 5))), inCurs()},
		{"several legs of a series", given(legs(traded(oil, 2, 45), traded(oil, 2, 45), traded(oil, -1, 40))), inCurs([2]int{0, 400 + 400 - 700})},
		{"legs in no order", given(legs(traded(tin, 1, 0), traded(gas, 3, 9), traded(oil, 1, 46))), inCurs([2]int{0, 101}, [2]int{2, -60})},
		{"legs of anybody", given(legs(traded(oil, 2, 45), by(bravo, traded(oil, 3, 45)), by(api.Acc{}, traded(oil, 4, 45)))), inCurs([2]int{0, 1800})},
		{"a price between ticks", given(legs(traded(oil, 1, 44))), inCurs([2]int{0, 300})},
		{"a price beyond the product's", given(legs(traded(oil, 1, 2047))), inCurs([2]int{0, -200000})},
		{"the last currency", given(positions(held(future("zinc"), api.MaxQty, 0))), inCurs([2]int{7, 1 << 57})},
	} {
		checkAccount(t, c.what, c.d, api.OK, c.want...)
	}
}

// P20.3: a position has nothing from the leg's price, and a leg nothing from the price of the day before.
func TestAccountPrices(t *testing.T) {
	oil := future("oil")
	only := priced(nil, now())
	checkAccount(t, "legs need no price of the day before", given(only, legs(traded(oil, 2, 45))), api.OK, inCurs([2]int{0, 400})...)
	checkBad(t, "positions do", given(only, positions(held(oil, 3, 0))), api.ErrNone)
	checkBad(t, "without lots on balance too", given(only, positions(held(oil, 3, 3))), api.ErrNone)
	checkBad(t, "a leg without lots needs one", given(priced(before(), nil), legs(traded(oil, 0, 45))), api.ErrNone)
	for _, other := range []api.Series{{Product: "oil", Kind: api.Future, Expiry: 8}, {Product: "oil", Kind: api.Future, Expiry: 9, Strike: 1}} {
		checkBad(t, "another series of the product, held", given(positions(held(other, 3, 0))), api.ErrNone)
		checkBad(t, "another series of the product, traded", given(legs(traded(other, 3, 45))), api.ErrNone)
		all := priced(sorted(append(before(), api.Mark{Series: other, Price: 1})...), sorted(append(now(), api.Mark{Series: other, Price: 2})...))
		checkAccount(t, "several series of a product", given(all, positions(held(other, 7, 0)), legs(traded(oil, 2, 45), traded(other, 1, 0))), api.OK, inCurs([2]int{0, 700 + 400 + 200})...)
	}
	checkBad(t, "no price now", given(priced(before(), without(now(), oil)), positions(held(oil, 3, 0))), api.ErrNone)
	checkBad(t, "no price before", given(priced(without(before(), oil), now()), positions(held(oil, 3, 0))), api.ErrNone)
	checkBad(t, "no price now for a leg", given(priced(before(), without(now(), oil)), legs(traded(oil, 3, 45))), api.ErrNone)
	zero := priced([]api.Mark{{Series: oil}}, []api.Mark{{Series: oil}})
	checkAccount(t, "a price of 0 is one", given(zero, positions(held(oil, 3, 0)), legs(traded(oil, 1, 5))), api.OK, inCurs([2]int{0, -500})...)
}

// P20.3: what is no future is ignored and not checked.
func TestAccountIgnored(t *testing.T) {
	others := []api.Series{option("oil"), {Product: "oil", Kind: api.Put, Expiry: 9}, {Product: "?", Kind: api.Call, Expiry: -1}, {Product: "oil"}, {Product: "oil", Kind: 4}, {Kind: -1}}
	for _, s := range others {
		for _, leg := range []api.Leg{traded(s, 2, 45), traded(s, math.MaxInt, math.MinInt)} {
			checkAccount(t, fmt.Sprint(leg), given(legs(leg, traded(future("oil"), 2, 45))), api.OK, inCurs([2]int{0, 400})...)
			checkAccount(t, fmt.Sprint(leg), given(priced(nil, nil), legs(leg)), api.OK, inCurs()...)
		}
		checkAccount(t, fmt.Sprint(s), given(positions(held(s, 9, 1))), api.OK, inCurs()...)
		checkBad(t, "without lots", given(positions(held(s, 0, 0))), api.ErrQty) // position.Check has it
	}
	checkBad(t, "too many legs of options", given(legs(slices.Repeat([]api.Leg{traded(option("oil"), 1, 1)}, 2*api.MaxList+1)...)), api.ErrLong)
	price := append(now(), api.Mark{Series: option("zinc"), Price: 8})
	checkAccount(t, "an option with a price", given(priced(price, price), positions(held(option("zinc"), 9, 0)), legs(traded(option("zinc"), 3, 1))), api.OK, inCurs()...)
}

// P20.3: the errors of whole lists, in their order, ahead of those of positions and legs.
func TestAccountErrors(t *testing.T) {
	twice := []api.Mark{{Series: future("oil")}, {Series: future("oil")}}
	dear := []api.Mark{{Series: future("oil"), Price: api.MaxPrice + 1}}
	steps := []struct {
		what  string
		spoil func(d *day)
		want  api.Errno
	}{
		{"too many products", made(make([]api.Product, api.MaxProducts+1)...), api.ErrLong},
		{"an invalid product", made(named("gas"), api.Product{Name: "oil", Mult: 1}), api.ErrTick},
		{"a product twice", made(named("oil"), named("oil")), api.ErrThere},
		{"a position twice", positions(held(future("oil"), 1, 0), held(future("oil"), 1, 0)), api.ErrSeries},
		{"a position without lots", positions(held(future("oil"), 0, 0)), api.ErrQty},
		{"a series twice before", func(d *day) { d.before = twice }, api.ErrSeries},
		{"a price before", func(d *day) { d.before = dear }, api.ErrPrice},
		{"a series twice now", func(d *day) { d.now = twice }, api.ErrSeries},
		{"a price now", func(d *day) { d.now = dear }, api.ErrPrice},
		{"too many legs", legs(make([]api.Leg, 2*api.MaxList+1)...), api.ErrLong},
		{"no such product", legs(traded(future("lead"), 1, 1)), api.ErrSeries},
	}
	for i, s := range steps {
		checkBad(t, s.what, given(s.spoil), s.want)
		for _, later := range steps[i+1:] {
			checkBad(t, s.what+", "+later.what, given(later.spoil, s.spoil), s.want)
		}
	}
	for want, p := range invalid() {
		checkBad(t, "an invalid product", given(made(p)), want)
	}
	many := make([]api.Mark, api.MaxSeries+1)
	checkBad(t, "too many prices before", given(priced(many, now())), api.ErrLong)
	checkBad(t, "too many prices now", given(priced(before(), many)), api.ErrLong)
	checkBad(t, "a price before and too many now", given(priced(dear, many)), api.ErrPrice)
	checkBad(t, "too many positions", given(positions(make([]api.Position, api.MaxSeries+1)...)), api.ErrLong)
	checkAccount(t, "the most legs", given(legs(slices.Repeat([]api.Leg{traded(future("tin"), 1, 0)}, 2*api.MaxList)...)), api.OK, inCurs([2]int{0, 2 * api.MaxList})...)
}

// P20.3: position by position, then leg by leg; of one the series first, then its price, then its own error.
func TestAccountOrder(t *testing.T) {
	oil, lead, early := future("oil"), future("lead"), api.Series{Product: "oil", Kind: api.Future}
	badPrice, badQty := traded(oil, 1, api.MaxPrice+1), traded(oil, api.MaxQty+1, 45)
	for _, c := range []struct {
		what string
		d    day
		want api.Errno
	}{
		{"no such product", given(positions(held(lead, 1, 0))), api.ErrSeries},
		{"no such product, with prices", given(priced([]api.Mark{{Series: lead}}, []api.Mark{{Series: lead}}), positions(held(lead, 1, 0))), api.ErrSeries},
		{"no such product, no lots on balance", given(positions(held(lead, 1, 1))), api.ErrSeries},
		{"a position, then one", given(positions(held(lead, 1, 0), held(early, 1, 0))), api.ErrSeries},
		{"a position without a price, then one", given(positions(held(early, 1, 0), held(future("silver"), 1, 0))), api.ErrNone},
		{"a position, then a leg", given(positions(held(early, 1, 0)), legs(traded(lead, 1, 1))), api.ErrNone},
		{"a leg after a position", given(positions(held(oil, 1, 0)), legs(traded(lead, 1, 1))), api.ErrSeries},
		{"a price of a leg", given(legs(badPrice)), api.ErrPrice},
		{"lots of a leg", given(legs(badQty)), api.ErrQty},
		{"both", given(legs(traded(oil, math.MinInt, math.MinInt))), api.ErrPrice},
		{"a leg without a price now, all wrong", given(legs(traded(early, math.MinInt, math.MinInt))), api.ErrNone},
		{"a leg without a product, all wrong", given(legs(traded(lead, math.MinInt, math.MinInt))), api.ErrSeries},
		{"lots, then a price", given(legs(badQty, badPrice)), api.ErrQty},
		{"a price, then lots", given(legs(badPrice, badQty)), api.ErrPrice},
		{"a series, then a price", given(legs(traded(early, 1, 1), badPrice)), api.ErrNone},
		{"lots, then a series", given(legs(traded(oil, 1, 1), badQty, traded(lead, 1, 1))), api.ErrQty},
		{"lots after an option", given(legs(traded(option("lead"), math.MaxInt, 1), badQty, badPrice)), api.ErrQty},
	} {
		checkBad(t, c.what, c.d, c.want)
	}
}

// greatest returns so many positions in futures on zinc, of which each receives 2^57, and their prices.
func greatest(n int) (l []api.Position, before, now []api.Mark) {
	for i := range n {
		l = append(l, held(month(i), api.MaxQty, 0))
		before = append(before, api.Mark{Series: month(i), Price: -api.MaxPrice})
		now = append(now, api.Mark{Series: month(i), Price: api.MaxPrice})
	}
	return l, before, now
}

// P20.3: the sum is exact, whatever its parts are; ErrOver comes last.
func TestAccountOver(t *testing.T) {
	l, before, now := greatest(api.MaxSeries)
	prices := priced(before, now)
	checkAccount(t, "the most that fits", given(prices, positions(l[:8]...)), api.OK, inCurs([2]int{7, api.MaxMoney})...)
	checkBad(t, "one position more", given(prices, positions(l[:9]...)), api.ErrOver)
	tin := future("tin")
	cent := priced(before[:8], append([]api.Mark{{Series: tin, Price: 1}}, now[:8]...))
	small := made(api.Product{Name: "tin", Cur: 7, Mult: 1, Tick: 1}, named("zinc"))
	checkAccount(t, "a cent less", given(cent, small, positions(l[:8]...), legs(traded(tin, 1, 2))), api.OK, inCurs([2]int{7, api.MaxMoney - 1})...)
	checkBad(t, "a cent more", given(cent, small, positions(l[:8]...), legs(traded(tin, 1, 0))), api.ErrOver)
	checkAccount(t, "a cent more, and less", given(cent, small, positions(l[:8]...), legs(traded(tin, 1, 0), traded(tin, -1, 0))), api.OK, inCurs([2]int{7, api.MaxMoney})...)
	// 2^64 and multiples of it are 0 in 64 bits.
	checkBad(t, "all positions", given(prices, positions(l...)), api.ErrOver)
	for _, n := range []int{8, 64, 128, 256, 1024, 2 * api.MaxList} {
		up := slices.Repeat([]api.Leg{traded(month(0), api.MaxQty, -api.MaxPrice)}, n)
		down := slices.Repeat([]api.Leg{traded(month(0), -api.MaxQty, -api.MaxPrice)}, n)
		want, wantDown := []int{}, []int{}
		e := api.ErrOver
		if n == 8 {
			want, wantDown, e = inCurs([2]int{7, api.MaxMoney}), inCurs([2]int{7, -api.MaxMoney}), api.OK
		}
		checkAccount(t, fmt.Sprint(n, " legs up"), given(prices, legs(up...)), e, want...)
		checkAccount(t, fmt.Sprint(n, " legs down"), given(prices, legs(down...)), e, wantDown...)
	}
	up := slices.Repeat([]api.Leg{traded(month(0), api.MaxQty, -api.MaxPrice)}, api.MaxList)
	down := slices.Repeat([]api.Leg{traded(month(0), -api.MaxQty, -api.MaxPrice)}, api.MaxList)
	checkAccount(t, "up and down", given(prices, legs(slices.Concat(up, down)...)), api.OK, inCurs()...)
	checkAccount(t, "down and up", given(prices, legs(slices.Concat(down, up)...)), api.OK, inCurs()...)
	checkAccount(t, "down after all positions", given(prices, positions(l...), legs(down[:121]...)), api.OK, inCurs([2]int{7, 7 << 57})...)
	checkBad(t, "too much, then a leg", given(prices, positions(l...), legs(traded(month(0), 1, api.MaxPrice+1))), api.ErrPrice)
}

// P20.4
func TestAll(t *testing.T) {
	gas, oil, tin := future("gas"), future("oil"), future("tin")
	for _, c := range []struct {
		what string
		d    day
		want []api.Flow
	}{
		{"nothing", given(), nil},
		{"an account without positions", given(holdings(holding(alfa))), nil},
		{"one account", given(holdings(holding(alfa, held(oil, 3, 0)))), []api.Flow{gets("alfa", 0, -900)}},
		{"currencies in their order", given(holdings(holding(alfa, held(gas, 0, 4), held(oil, 3, 0), held(future("zinc"), 1, 0)))), []api.Flow{gets("alfa", 0, -900), gets("alfa", 2, -80), gets("alfa", 7, 1<<37)}},
		{"members in their order", given(holdings(holding(bravo, held(oil, 0, 3)), holding(alfa, held(oil, 3, 0)))), []api.Flow{gets("alfa", 0, -900), gets("bravo", 0, 900)}},
		{"two accounts of a member", given(holdings(holding(alfaA, held(oil, 1, 0)), holding(alfa, held(gas, 1, 0), held(oil, 3, 0)))), []api.Flow{gets("alfa", 0, -1200), gets("alfa", 2, 20)}},
		{"they offset each other", given(holdings(holding(alfaA, held(oil, 0, 3)), holding(alfa, held(oil, 3, 0)))), nil},
		{"a currency of 0", given(holdings(holding(alfa, held(gas, 1, 0), held(oil, 3, 3)))), []api.Flow{gets("alfa", 2, 20)}},
		{"legs", given(legs(traded(oil, 2, 45))), []api.Flow{gets("alfa", 0, 400)}},
		{"legs of several accounts", given(legs(by(bravo, traded(oil, 2, 45)), traded(oil, -2, 45), by(bravoA, traded(gas, 1, 5)), by(bravo, traded(tin, 1, 0)))), []api.Flow{gets("alfa", 0, -400), gets("bravo", 0, 401), gets("bravo", 2, 20)}},
		{"positions and legs of an account", given(holdings(holding(alfa, held(oil, 3, 0))), legs(traded(oil, 2, 45))), []api.Flow{gets("alfa", 0, -500)}},
		{"of two accounts", given(holdings(holding(alfa, held(oil, 3, 0))), legs(by(alfaA, traded(oil, 2, 45)))), []api.Flow{gets("alfa", 0, -500)}},
		{"of two members", given(holdings(holding(bravo, held(oil, 3, 0))), legs(traded(oil, 2, 45))), []api.Flow{gets("alfa", 0, 400), gets("bravo", 0, -900)}},
		{"options", given(holdings(holding(alfa, held(option("oil"), 3, 0))), legs(by(bravo, traded(option("oil"), 2, 45)))), nil},
		{"no names", given(legs(by(api.Acc{}, traded(oil, 2, 45)), by(api.Acc{Name: "x"}, traded(oil, 1, 45)))), []api.Flow{gets("", 0, 600)}},
		{"names that are none", given(legs(by(api.Acc{Member: "\xff"}, traded(oil, 2, 45)), by(api.Acc{Member: "Z"}, traded(oil, 1, 45)), by(api.Acc{Member: "a\x00"}, traded(tin, 1, 0)), by(api.Acc{Member: "a"}, traded(tin, 2, 0)))), []api.Flow{gets("Z", 0, 200), gets("a", 0, 2), gets("a\x00", 0, 1), gets("\xff", 0, 400)}},
	} {
		checkAll(t, c.what, c.d, api.OK, c.want...)
	}
	checkAll(t, "nothing at all", day{}, api.OK)
	checkAll(t, "no account, no error", given(made(api.Product{}), priced(make([]api.Mark, 500), nil)), api.OK)
}

// P20.4: the legs of an account count only for its first holding.
func TestAllTwice(t *testing.T) {
	gas, oil, lead := future("gas"), future("oil"), future("lead")
	d := given(holdings(holding(alfa, held(oil, 3, 0)), holding(bravo), holding(alfa, held(gas, 4, 0)), holding(alfa, held(oil, 1, 0))), legs(traded(oil, 2, 45), by(bravo, traded(oil, -2, 45))))
	checkAll(t, "three holdings", d, api.OK, gets("alfa", 0, -800), gets("alfa", 2, 80), gets("bravo", 0, -400))
	checkAll(t, "the first one without positions", given(holdings(holding(alfa), holding(alfa, held(oil, 3, 0))), legs(traded(oil, 2, 45))), api.OK, gets("alfa", 0, -500))
	// The error of alfa's leg belongs to its first holding, ahead of bravo's position.
	checkAll(t, "an error of the first one's legs", given(holdings(holding(alfa, held(oil, 1, 0)), holding(bravo, held(lead, 1, 0)), holding(alfa)), legs(traded(oil, api.MaxQty+1, 1))), api.ErrQty)
}

// P20.4: the errors account by account.
func TestAllErrors(t *testing.T) {
	oil, lead, early := future("oil"), future("lead"), api.Series{Product: "oil", Kind: api.Future}
	noSeries, noPrice, noLots := traded(lead, 1, 1), traded(early, 1, 1), traded(oil, api.MaxQty+1, 1)
	dear := []api.Mark{{Series: oil, Price: api.MaxPrice + 1}}
	for _, c := range []struct {
		what string
		d    day
		want api.Errno
	}{
		{"an account without positions is checked", given(made(api.Product{}), holdings(holding(alfa))), api.ErrName},
		{"an account with legs is checked", given(made(api.Product{}), legs(traded(option("oil"), 1, 1))), api.ErrName},
		{"holdings in their order", given(holdings(holding(bravo, held(lead, 1, 0)), holding(alfa, held(early, 1, 0)))), api.ErrSeries},
		{"positions of a later holding", given(holdings(holding(alfa, held(early, 1, 0)), holding(bravo, held(oil, 0, 0)))), api.ErrNone},
		{"the prices ahead of a later holding's positions", given(priced(dear, now()), holdings(holding(alfa), holding(bravo, held(oil, 0, 0)))), api.ErrPrice},
		{"a holding's legs ahead of the next one", given(holdings(holding(bravo, held(oil, 1, 0)), holding(alfa, held(lead, 1, 0))), legs(by(bravo, noLots))), api.ErrQty},
		{"a holding ahead of other accounts", given(holdings(holding(bravo, held(early, 1, 0))), legs(noSeries)), api.ErrNone},
		{"a holding's legs ahead of other accounts", given(holdings(holding(bravo)), legs(noSeries, by(bravo, noLots))), api.ErrQty},
		{"other accounts by member", given(legs(by(bravo, noSeries), by(alfa, noLots))), api.ErrQty},
		{"other accounts by name", given(legs(by(bravo, noSeries), by(bravoA, noPrice))), api.ErrNone},
		{"by member ahead of the name", given(legs(by(bravoA, noSeries), by(alfa, noPrice))), api.ErrNone},
		{"legs of one account in their order", given(legs(by(bravo, traded(oil, 1, 1)), by(bravo, noLots), by(alfa, traded(oil, 1, 1)), by(bravo, noSeries))), api.ErrQty},
	} {
		checkAll(t, c.what, c.d, c.want)
	}
}

// P20.4: the number of legs is limited for each account, not for all of them.
func TestAllManyLegs(t *testing.T) {
	tin := traded(future("tin"), 1, 0)
	most := slices.Repeat([]api.Leg{tin}, 2*api.MaxList)
	others := slices.Repeat([]api.Leg{by(alfaA, tin), by(bravo, tin)}, 2*api.MaxList)
	n := 2 * api.MaxList
	checkAll(t, "the most of three accounts", given(legs(append(most, others...)...)), api.OK, gets("alfa", 0, 2*n), gets("bravo", 0, n))
	checkAll(t, "one more", given(legs(slices.Concat(most, others, []api.Leg{by(bravo, tin)})...)), api.ErrLong)
	checkAll(t, "one more, of an option", given(holdings(holding(alfa)), legs(append(most, traded(option("tin"), 1, 0))...)), api.ErrLong)
	var many []api.Holding
	var want []api.Flow
	for i := range 3000 {
		name := fmt.Sprintf("m%04d", i)
		many = append(many, holding(api.Acc{Member: name}, held(future("tin"), i+1, 0)))
		want = append(want, gets(name, 0, 4*(i+1)))
	}
	checkAll(t, "many holdings", given(holdings(many...)), api.OK, want...)
}

// P20.4: flows are exact sums; ErrOver of a flow comes after the errors of all accounts.
func TestAllOver(t *testing.T) {
	l, before, now := greatest(8)
	prices := priced(before, now)
	full := holding(alfa, l...)
	var down []api.Position
	for _, p := range l {
		down = append(down, held(p.Series, 0, p.Long))
	}
	empty := holding(alfaA, down...)
	checkAll(t, "the most that fits", given(prices, holdings(full)), api.OK, gets("alfa", 7, api.MaxMoney))
	checkAll(t, "the least that fits", given(prices, holdings(empty)), api.OK, gets("alfa", 7, -api.MaxMoney))
	checkAll(t, "of two members", given(prices, holdings(full, holding(bravo, l...))), api.OK, gets("alfa", 7, api.MaxMoney), gets("bravo", 7, api.MaxMoney))
	checkAll(t, "too much, and back", given(prices, holdings(full, full, empty)), api.OK, gets("alfa", 7, api.MaxMoney))
	checkAll(t, "too little, and back", given(prices, holdings(empty, empty, full)), api.OK, gets("alfa", 7, -api.MaxMoney))
	checkAll(t, "one lot more", given(prices, holdings(full), legs(by(alfaA, traded(month(0), 1, api.MaxPrice-1)))), api.ErrOver)
	checkAll(t, "too much for one account, though not for the member", given(prices, holdings(empty, full), legs(traded(month(0), 1, api.MaxPrice-1))), api.ErrOver)
	for _, n := range []int{2, 8, 16, 32, 64} { // 16 times MaxMoney is 0 in 64 bits
		checkAll(t, fmt.Sprint(n, " times"), given(prices, holdings(slices.Repeat([]api.Holding{full}, n)...)), api.ErrOver)
		checkAll(t, fmt.Sprint(n, " times down"), given(prices, holdings(slices.Repeat([]api.Holding{empty}, n)...)), api.ErrOver)
	}
	checkAll(t, "an account's error first", given(prices, holdings(full, full), legs(by(bravo, traded(month(0), 1, math.MaxInt)))), api.ErrPrice)
}

// P20.5
func TestZero(t *testing.T) {
	in := func(cur int, cents ...int) (l []api.Flow) {
		for _, n := range cents {
			l = append(l, api.Flow{Cur: cur, Cents: n})
		}
		return l
	}
	const least, most = math.MinInt, math.MaxInt
	for _, c := range []struct {
		l    []api.Flow
		want bool
	}{
		{nil, true}, {[]api.Flow{}, true}, {in(0, 0), true}, {in(0, 1), false}, {in(0, -1), false}, {in(0, 5, -5), true}, {in(0, 5, -4), false},
		{in(0, 1, 2, 3, -6), true}, {slices.Concat(in(0, 5), in(1, -5)), false}, {slices.Concat(in(0, 5), in(1, 7, -7), in(0, -5)), true},
		{slices.Concat(in(0, 5, -5), in(1, 7)), false}, {slices.Concat(in(3, 1, -1), in(-9, 2), in(most, 4), in(least, 8), in(-9, -2), in(most, -4), in(least, -8)), true},
		{slices.Concat(in(-1, 1), in(1, -1)), false}, {slices.Concat(in(least, 1), in(0, -1)), false}, {slices.Concat(in(1<<32, 1), in(0, -1)), false},
		{in(9, least, most, 1), true}, {in(9, most, 1, least), true}, {in(9, least, most), false}, {in(9, most, most, least, least, 2), true}, {in(9, least, least, most, most), false},
		{in(9, least, least), false}, {in(9, most, most, 2), false}, {slices.Repeat(in(9, least), 6), false}, {slices.Repeat(in(9, 1<<62), 4), false}, {slices.Repeat(in(9, -1<<62), 64), false},
		{slices.Concat(slices.Repeat(in(9, least), 1000), slices.Repeat(in(9, most), 1000), in(9, 1000)), true},
		{slices.Concat(slices.Repeat(in(9, least), 1000), slices.Repeat(in(9, most), 1000), in(9, 1000, most)), false},
	} {
		given, unchanged := guarded(c.l, api.Flow{Member: "beyond", Cents: 7})
		if Zero(given) != c.want {
			t.Errorf("%v: want %t", c.l, c.want)
		}
		slices.Reverse(given)
		if Zero(given) != c.want {
			t.Errorf("%v: want %t", given, c.want)
		}
		slices.Reverse(given)
		if !unchanged() {
			t.Errorf("%v: the argument has changed", c.l)
		}
	}
	if !Zero([]api.Flow{{Member: "a", Cents: 5, Why: 1}, {Member: "b", Cents: -5, Why: -7}}) {
		t.Error("neither the member nor the reason matters")
	}
}

// P20.5: exact sums of random ints.
func TestZeroRandom(t *testing.T) {
	r := rand.New(rand.NewSource(5))
	seen := map[bool]int{}
	for range 5000 {
		var l []api.Flow
		exact := map[int]*big.Int{}
		for range r.Intn(12) {
			f := api.Flow{Cur: r.Intn(3) - 1, Cents: int(r.Uint64()) >> r.Intn(64)}
			l = append(l, f)
			if r.Intn(6) > 0 && f.Cents != math.MinInt {
				l = append(l, api.Flow{Cur: f.Cur, Cents: -f.Cents})
			}
		}
		for _, f := range l {
			if exact[f.Cur] == nil {
				exact[f.Cur] = new(big.Int)
			}
			exact[f.Cur].Add(exact[f.Cur], big.NewInt(int64(f.Cents)))
		}
		want := true
		for _, n := range exact {
			want = want && n.Sign() == 0
		}
		r.Shuffle(len(l), func(i, j int) { l[i], l[j] = l[j], l[i] })
		if Zero(l) != want {
			t.Errorf("%v: want %t", l, want)
		}
		seen[want]++
	}
	if seen[true] < 500 || seen[false] < 500 {
		t.Errorf("only %v", seen)
	}
}

// P20.6: gains add up from price to price, for positions and for legs.
func TestAdditive(t *testing.T) {
	r := rand.New(rand.NewSource(206))
	price := func() int { return r.Intn(2*api.MaxPrice+1) - api.MaxPrice }
	for range 2000 {
		p := products()[r.Intn(4)]
		net := r.Intn(2*api.MaxQty+1) - api.MaxQty
		a, b, c := price(), price(), price()
		first, _ := Carried(p, net, a, b)
		second, _ := Carried(p, net, b, c)
		n, e := Carried(p, net, a, c)
		checkNumber(t, fmt.Sprintf("%d of %v from %d by %d to %d", net, p, a, b, c), n, e, first+second, api.OK)
		fresh, _ := Fresh(p, api.Leg{Qty: net, Price: a}, b)
		checkNumber(t, fmt.Sprintf("%d of %v at %d to %d and %d", net, p, a, b, c), fresh+second, api.OK, n, api.OK)
	}
}

// randomDay returns the holdings and legs of some accounts, with the house flat in every series, and prices.
func randomDay(r *rand.Rand) (d day, trades []api.Trade) {
	accounts := []api.Acc{alfa, alfaA, bravo, bravoA, {Member: "carl", Name: "c"}}
	some := func() api.Acc { return accounts[r.Intn(len(accounts))] }
	futures := []api.Series{future("gas"), future("oil"), option("oil"), future("tin"), future("zinc"), month(20)}
	d = given()
	positions := map[api.Acc][]api.Position{}
	for _, s := range futures {
		d.before = append(without(d.before, s), api.Mark{Series: s, Price: r.Intn(2001) - 1000})
		d.now = append(without(d.now, s), api.Mark{Series: s, Price: r.Intn(2001) - 1000})
		for range r.Intn(5) {
			a, b, n := some(), some(), 1+r.Intn(1000)
			positions[a], _ = position.Apply(positions[a], api.AccGross, traded(s, n, 0), 0)
			positions[b], _ = position.Apply(positions[b], api.AccGross, traded(s, -n, 0), 0)
		}
		for range r.Intn(5) {
			trades = append(trades, api.Trade{Series: s, Qty: 1 + r.Intn(1000), Price: r.Intn(2001) - 1000, Buyer: some(), Seller: some()})
		}
	}
	for _, acc := range accounts {
		if len(positions[acc]) > 0 {
			d.holdings = append(d.holdings, holding(acc, positions[acc]...))
		}
	}
	d.before, d.now = sorted(d.before...), sorted(d.now...)
	d.legs = novate.All(trades)
	return d, trades
}

// expected returns the flows of a day, from the definition of P20.3 and P20.4.
func expected(d day) (l []api.Flow) {
	price := func(marks []api.Mark, s api.Series) int {
		return marks[slices.IndexFunc(marks, func(m api.Mark) bool { return m.Series == s })].Price
	}
	type key struct {
		member string
		cur    int
	}
	sums := map[key]int{}
	add := func(member string, s api.Series, lots, from int) {
		if s.Kind == api.Future {
			p := named(s.Product)
			sums[key{member, p.Cur}] += lots * p.Mult * (price(d.now, s) - from)
		}
	}
	for _, h := range d.holdings {
		for _, p := range h.Positions {
			add(h.Acc.Member, p.Series, p.Long-p.Short, price(d.before, p.Series))
		}
	}
	for _, leg := range d.legs {
		add(leg.Acc.Member, leg.Series, leg.Qty, leg.Price)
	}
	for k, n := range sums {
		if n != 0 {
			l = append(l, gets(k.member, k.cur, n))
		}
	}
	slices.SortFunc(l, func(a, b api.Flow) int {
		if n := strings.Compare(a.Member, b.Member); n != 0 {
			return n
		}
		return a.Cur - b.Cur
	})
	return l
}

// P20.4, P20.6, P20.7: flows are those of the definition, in any order of legs and holdings, and no cent is created or lost.
func TestAllRandom(t *testing.T) {
	r := rand.New(rand.NewSource(20))
	for range 1000 {
		d, trades := randomDay(r)
		want := expected(d)
		checkAll(t, "as it is", d, api.OK, want...)
		if !novate.Flat(novate.All(trades)) || !Zero(want) {
			t.Errorf("%v: the flows %v do not balance", d, want)
		}
		if len(want) > 0 && Zero(want[1:]) {
			t.Errorf("%v: the flows balance without the first one", want)
		}
		r.Shuffle(len(d.legs), func(i, j int) { d.legs[i], d.legs[j] = d.legs[j], d.legs[i] })
		r.Shuffle(len(d.holdings), func(i, j int) { d.holdings[i], d.holdings[j] = d.holdings[j], d.holdings[i] })
		checkAll(t, "in another order", d, api.OK, want...)
	}
}

// P20.6: an account receives the same in any order of its legs.
func TestAccountRandom(t *testing.T) {
	r := rand.New(rand.NewSource(3))
	for range 500 {
		d, _ := randomDay(r)
		if len(d.holdings) > 0 {
			d.held = d.holdings[0].Positions
		}
		d.holdings = []api.Holding{holding(alfa, d.held...)}
		for i := range d.legs {
			d.legs[i].Acc = alfa
		}
		n, e := Account(d.products, d.held, d.legs, d.before, d.now)
		checkError(t, "Account", e, api.OK)
		want := inCurs()
		for _, f := range expected(d) {
			want[f.Cur] = f.Cents
		}
		if !slices.Equal(n, want) {
			t.Errorf("%v: %v; want %v", d, n, want)
		}
		r.Shuffle(len(d.legs), func(i, j int) { d.legs[i], d.legs[j] = d.legs[j], d.legs[i] })
		checkAccount(t, "in another order", d, api.OK, n...)
	}
}

func TestExamples(t *testing.T) {
	oil := named("oil")
	n, e := Carried(oil, 3, 50, 47)
	checkNumber(t, "example 1: Carried", n, e, -900, api.OK)
	n, e = Fresh(oil, traded(future("oil"), -2, 45), 47)
	checkNumber(t, "example 1: Fresh", n, e, -400, api.OK)
	d := given(positions(held(future("oil"), 3, 0)), legs(traded(future("oil"), 2, 45)))
	checkAccount(t, "example 2", d, api.OK, inCurs([2]int{0, -900 + 400})...)
}
