package novate

import (
	"fmt"
	"math"
	"math/rand"
	"slices"
	"testing"

	"contango/api"
)

var (
	ax = api.Acc{Member: "a", Name: "x"}
	ay = api.Acc{Member: "a", Name: "y"}
	bx = api.Acc{Member: "b", Name: "x"}
)

// far are ints that are not between -MaxQty and MaxQty.
var far = []int{math.MinInt, math.MinInt + 1, -1 << 32, -api.MaxQty - 1, api.MaxQty + 1, 1 << 32, math.MaxInt}

// oil is a product whose lots are worth as much as the document's example says.
func oil() api.Product {
	return api.Product{Name: "oil", Mult: 10, Tick: 5, High: 100}
}

func oilSeries() api.Series {
	return api.Series{Product: "oil", Kind: api.Future, Expiry: 9576}
}

// oilTrade is the trade of the document's example.
func oilTrade() api.Trade {
	return api.Trade{Id: 7, Day: 5, Time: 60, Series: oilSeries(), Qty: 3, Price: 50, Buyer: ax, Seller: bx}
}

// oddTrade returns a trade of which nothing is valid.
func oddTrade() api.Trade {
	return api.Trade{Id: math.MinInt, Day: -1, Time: math.MaxInt, Series: api.Series{Product: "?", Kind: 9, Expiry: -7, Strike: 3}, Qty: math.MinInt, Price: math.MaxInt, Buyer: api.Acc{Name: " "}, Seller: api.Acc{Name: " "}}
}

// others are accounts that differ from ax in a single part, or that are made of the same letters.
func others() []api.Acc {
	return []api.Acc{ay, bx, {Member: "a"}, {Name: "x"}, {Member: "ax"}, {Member: "x", Name: "a"}, {}}
}

// otherSeries differ from oilSeries in a single field.
func otherSeries() (l []api.Series) {
	l = slices.Repeat([]api.Series{oilSeries()}, 4)
	l[0].Product = "gas"
	l[1].Kind = api.Call
	l[2].Expiry++
	l[3].Strike = 5
	return l
}

// legs returns legs of ax in oil at the price 50, with those quantities.
func legs(qtys ...int) (l []api.Leg) {
	for i, qty := range qtys {
		l = append(l, api.Leg{Acc: ax, Series: oilSeries(), Qty: qty, Price: 50, Trade: i})
	}
	return l
}

// randomTrades returns trades of three accounts in four series.
func randomTrades(r *rand.Rand) (l []api.Trade) {
	accs, contracts := []api.Acc{ax, ay, bx}, append(otherSeries()[:3], oilSeries())
	for i := range r.Intn(20) {
		l = append(l, api.Trade{Id: i, Series: contracts[r.Intn(4)], Qty: 1 + r.Intn(api.MaxQty), Price: r.Intn(100), Buyer: accs[r.Intn(3)], Seller: accs[r.Intn(3)]})
	}
	return l
}

// mirrored returns the legs and, behind them, what takes each of them back.
func mirrored(l []api.Leg) []api.Leg {
	both := slices.Clone(l)
	for _, leg := range l {
		both = append(both, Undo(leg))
	}
	return both
}

func checkResult(t *testing.T, what string, n int, e api.Errno, want int) {
	t.Helper()
	if n != want || e != api.OK {
		t.Errorf("%s: %d, error %d; want %d", what, n, e, want)
	}
}

func checkError(t *testing.T, what string, n int, e, want api.Errno) {
	t.Helper()
	if n != 0 || e != want {
		t.Errorf("%s: %d, error %d; want error %d", what, n, e, want)
	}
}

// checkAllErrors holds that Net, Cost and House return an error, and that such legs are not flat.
func checkAllErrors(t *testing.T, what string, l []api.Leg, want api.Errno) {
	t.Helper()
	n, e := Net(l, ax, oilSeries())
	checkError(t, what+": Net", n, e, want)
	n, e = Cost(l, ax, oil(), oilSeries())
	checkError(t, what+": Cost", n, e, want)
	n, e = House(l, oilSeries())
	checkError(t, what+": House", n, e, want)
	checkFlat(t, what, l, false)
}

func checkFlat(t *testing.T, what string, l []api.Leg, want bool) {
	t.Helper()
	if ok := Flat(l); ok != want {
		t.Errorf("%s: flat is %t", what, ok)
	}
}

// P13.1
func TestLegs(t *testing.T) {
	bought, sold := Legs(oilTrade())
	if want := (api.Leg{Acc: ax, Series: oilSeries(), Qty: 3, Price: 50, Trade: 7}); bought != want {
		t.Errorf("bought %v; want %v", bought, want)
	}
	if want := (api.Leg{Acc: bx, Series: oilSeries(), Qty: -3, Price: 50, Trade: 7}); sold != want {
		t.Errorf("sold %v; want %v", sold, want)
	}
}

// P13.1: any trade is accepted, and the smallest int remains unchanged.
func TestLegsOfAnyTrade(t *testing.T) {
	for qty, negated := range map[int]int{0: 0, -4: 4, math.MaxInt: math.MinInt + 1, math.MinInt: math.MinInt} {
		x := oddTrade()
		x.Qty = qty
		bought, sold := Legs(x)
		want := api.Leg{Acc: x.Buyer, Series: x.Series, Qty: qty, Price: math.MaxInt, Trade: math.MinInt}
		if bought != want {
			t.Errorf("bought %v; want %v", bought, want)
		}
		want.Qty = negated
		if sold != want {
			t.Errorf("sold %v; want %v", sold, want)
		}
	}
	if bought, sold := Legs(api.Trade{}); bought != (api.Leg{}) || sold != (api.Leg{}) {
		t.Errorf("of no trade: %v, %v", bought, sold)
	}
}

// P13.1
func TestUndo(t *testing.T) {
	for qty, negated := range map[int]int{0: 0, 3: -3, -3: 3, math.MaxInt: math.MinInt + 1, math.MinInt + 1: math.MaxInt, math.MinInt: math.MinInt} {
		leg := api.Leg{Acc: ay, Series: otherSeries()[3], Qty: qty, Price: -50, Trade: 9}
		want := leg
		want.Qty = negated
		if out := Undo(leg); out != want {
			t.Errorf("%v is undone by %v; want %v", leg, out, want)
		}
		if out := Undo(Undo(leg)); out != leg {
			t.Errorf("%v undone twice is %v", leg, out)
		}
	}
}

// P13.1: trade by trade, the buyer's leg first, however many trades there are.
func TestAll(t *testing.T) {
	for _, length := range []int{0, 1, 2, 5, api.MaxList, api.MaxList + 1, 3 * api.MaxList} {
		trades, want := []api.Trade{}, []api.Leg{}
		for i := range length {
			x := oilTrade()
			if i%3 == 1 {
				x = oddTrade()
			}
			x.Id, x.Price = length-i, i
			bought, sold := Legs(x)
			trades, want = append(trades, x), append(want, bought, sold)
		}
		if out := All(trades); !slices.Equal(out, want) {
			t.Errorf("of %d trades: %v; want %v", length, out, want)
		}
	}
	if out := All(nil); len(out) != 0 {
		t.Errorf("of no trades: %v", out)
	}
}

// P13.2: of one account and one series.
func TestNet(t *testing.T) {
	for _, c := range []struct {
		qtys []int
		want int
	}{
		{nil, 0},
		{[]int{3}, 3},
		{[]int{-3}, -3},
		{[]int{3, -1, 4, -1, 5}, 10},
		{[]int{3, -3}, 0},
		{[]int{0}, 0},
		{[]int{api.MaxQty, api.MaxQty}, 2 * api.MaxQty},
		{[]int{-api.MaxQty, -api.MaxQty, 1}, 1 - 2*api.MaxQty},
	} {
		n, e := Net(legs(c.qtys...), ax, oilSeries())
		checkResult(t, fmt.Sprint(c.qtys), n, e, c.want)
		for _, acc := range others() {
			n, e = Net(legs(c.qtys...), acc, oilSeries())
			checkResult(t, fmt.Sprint(acc), n, e, 0)
		}
		for _, s := range otherSeries() {
			n, e = Net(legs(c.qtys...), ax, s)
			checkResult(t, fmt.Sprint(s), n, e, 0)
		}
	}
	l := legs(1, 20, 300, 4000)
	l[1].Acc, l[2].Series = bx, otherSeries()[2]
	for _, c := range []struct {
		acc  api.Acc
		s    api.Series
		want int
	}{{ax, oilSeries(), 4001}, {bx, oilSeries(), 20}, {ax, l[2].Series, 300}, {bx, l[2].Series, 0}} {
		n, e := Net(l, c.acc, c.s)
		checkResult(t, fmt.Sprint(c.acc, c.s), n, e, c.want)
	}
	n, e := Net([]api.Leg{{Qty: 4}}, api.Acc{}, api.Series{})
	checkResult(t, "of an account and a series that are none", n, e, 4)
}

// P13.2, P13.3, P13.4: as many legs as there may be, and one more.
func TestTooManyLegs(t *testing.T) {
	for _, sign := range []int{1, -1} {
		most := legs(slices.Repeat([]int{sign * api.MaxQty}, 2*api.MaxList)...)
		n, e := Net(most, ax, oilSeries())
		checkResult(t, "Net of the most legs", n, e, sign*1<<31)
		n, e = Cost(most, ax, oil(), oilSeries())
		checkResult(t, "Cost of the most legs", n, e, sign*500<<31)
		n, e = House(most, oilSeries())
		checkResult(t, "House of the most legs", n, e, -sign*1<<31)
		checkFlat(t, "the most legs", most, false)
	}
	checkFlat(t, "the most legs, flat", mirrored(legs(slices.Repeat([]int{5}, api.MaxList)...)), true)
	for _, length := range []int{2*api.MaxList + 1, 5 * api.MaxList} {
		l := make([]api.Leg, length) // of no account that is asked for
		checkAllErrors(t, "too many legs", l, api.ErrLong)
		l[0].Qty = api.MaxQty + 1
		checkAllErrors(t, "too many legs, and too many lots", l, api.ErrLong)
	}
}

// P13.2, P13.3, P13.4: lots that may not be, of any leg, whosever it is.
func TestLots(t *testing.T) {
	for _, qty := range far {
		for i := range 3 {
			for _, acc := range []api.Acc{ax, bx} {
				for _, s := range append(otherSeries(), oilSeries()) {
					l := legs(1, -1, 0)
					l[i].Acc, l[i].Series, l[i].Qty = acc, s, qty
					checkAllErrors(t, fmt.Sprint(l), l, api.ErrQty)
				}
			}
		}
		checkAllErrors(t, fmt.Sprint(qty, " and its negation"), mirrored(legs(qty)), api.ErrQty)
	}
	l := legs(slices.Repeat([]int{1}, 2*api.MaxList)...)
	l[2*api.MaxList-1].Qty = -api.MaxQty - 1
	checkAllErrors(t, "the last leg", l, api.ErrQty)
}

// P13.3: the value of the legs that Net sums, at their prices.
func TestCost(t *testing.T) {
	trades := All([]api.Trade{oilTrade()})
	for acc, want := range map[api.Acc]int{ax: 1500, bx: -1500, ay: 0} {
		n, e := Cost(trades, acc, oil(), oilSeries())
		checkResult(t, fmt.Sprint(acc), n, e, want)
	}
	l := legs(1, 20, 300, -4000, 0)
	l[0].Price, l[3].Price, l[4].Price = -2*api.MaxPrice, 2*api.MaxPrice, 7
	l[1].Acc, l[2].Series = bx, otherSeries()[2]
	n, e := Cost(l, ax, oil(), oilSeries())
	checkResult(t, "at several prices", n, e, -4001*10*2*api.MaxPrice)
	n, e = Cost(l, bx, oil(), oilSeries())
	checkResult(t, "of another account", n, e, 20*10*50)
	gas := api.Product{Name: "gas", Mult: 7, Tick: 1, Physical: true} // whichever product, though the series is of another one
	n, e = Cost(l, ax, gas, l[2].Series)
	checkResult(t, "of another series", n, e, 300*7*50)
}

// P13.3: the error of the first leg that has one, of those that Net sums alone.
func TestCostErrors(t *testing.T) {
	for _, price := range []int{2*api.MaxPrice + 1, -2*api.MaxPrice - 1, math.MinInt, math.MaxInt} {
		for i := range 3 {
			l := legs(1, 0, -1)
			l[i].Price = price
			n, e := Cost(l, ax, oil(), oilSeries())
			checkError(t, fmt.Sprint(l), n, e, api.ErrPrice)
			l[i].Acc = ay
			n, e = Cost(l, ax, oil(), oilSeries())
			checkResult(t, fmt.Sprint(l), n, e, []int{-500, 0, 500}[i])
			l[i].Acc, l[i].Series = ax, otherSeries()[i]
			n, e = Cost(l, ax, oil(), oilSeries())
			checkResult(t, fmt.Sprint(l), n, e, []int{-500, 0, 500}[i])
			l[i].Series, l[(i+1)%3].Qty = oilSeries(), api.MaxQty+1
			n, e = Cost(l, ax, oil(), oilSeries())
			checkError(t, fmt.Sprint(l), n, e, api.ErrQty)
		}
	}
}

// P13.3: a product that is none matters only if there is a leg.
func TestCostOfNoProduct(t *testing.T) {
	for want, p := range map[api.Errno]api.Product{
		api.ErrName:  {},
		api.ErrRate:  {Name: "oil", Cur: -1},
		api.ErrArg:   {Name: "oil"},
		api.ErrTick:  {Name: "oil", Mult: 1},
		api.ErrPrice: {Name: "oil", Mult: 1, Tick: 5, Low: 1, High: 5},
	} {
		l := legs(1)
		n, e := Cost(l, ax, p, oilSeries())
		checkError(t, fmt.Sprint(p), n, e, want)
		l[0].Price = math.MaxInt
		n, e = Cost(l, ax, p, oilSeries())
		checkError(t, fmt.Sprint(p), n, e, want)
		n, e = Cost(l, bx, p, oilSeries())
		checkResult(t, "of another account", n, e, 0)
		n, e = Cost(l, ax, p, otherSeries()[0])
		checkResult(t, "of another series", n, e, 0)
		n, e = Cost(nil, ax, p, oilSeries())
		checkResult(t, "of no leg", n, e, 0)
		l[0].Qty = api.MaxQty + 1
		n, e = Cost(l, bx, p, oilSeries())
		checkError(t, "of lots that may not be", n, e, api.ErrQty)
	}
}

// P13.3: sums at the bound and beyond it; eight of the greatest values are MaxMoney.
func TestCostBounds(t *testing.T) {
	p := api.Product{Name: "oil", Mult: api.MaxMult, Tick: 1}
	for _, c := range []struct {
		plus, minus int // legs of the greatest value, and of its negation
		more        int // lots of one leg more, at a price of 1
		want        int
		e           api.Errno
	}{
		{8, 0, 0, api.MaxMoney, api.OK},
		{0, 8, 0, -api.MaxMoney, api.OK},
		{8, 0, 1, 0, api.ErrOver},
		{0, 8, -1, 0, api.ErrOver},
		{8, 0, -1, api.MaxMoney - api.MaxMult, api.OK},
		{9, 0, 0, 0, api.ErrOver},
		{0, 9, 0, 0, api.ErrOver},
		{64, 0, 0, 0, api.ErrOver},
		{128, 0, 0, 0, api.ErrOver}, // 2^64
		{0, 128, 1, 0, api.ErrOver},
		{1024, 1024, 0, 0, api.OK},
		{1023, 1016, -2, 7<<57 - 2*api.MaxMult, api.OK}, // partial sums may exceed the bound
		{2048, 0, 0, 0, api.ErrOver},
	} {
		l := legs(slices.Repeat([]int{api.MaxQty}, c.plus+c.minus)...)
		for i := range l {
			l[i].Price = 2 * api.MaxPrice
			if i >= c.plus {
				l[i].Price = -2 * api.MaxPrice
			}
		}
		if c.more != 0 {
			l = append(l, api.Leg{Acc: ax, Series: oilSeries(), Qty: c.more, Price: 1})
		}
		n, e := Cost(l, ax, p, oilSeries())
		if n != c.want || e != c.e {
			t.Errorf("%d and %d legs, and %d lots: %d, error %d; want %d, error %d", c.plus, c.minus, c.more, n, e, c.want, c.e)
		}
		l[len(l)-1].Price = math.MinInt
		n, e = Cost(l, ax, p, oilSeries())
		checkError(t, "a price ahead of the sum", n, e, api.ErrPrice)
	}
}

// P13.4: all accounts' lots of one series, negated.
func TestHouse(t *testing.T) {
	l := legs(1, 20, 300, -4000)
	l[1].Acc, l[2].Series, l[3].Acc = bx, otherSeries()[2], api.Acc{}
	for s, want := range map[api.Series]int{oilSeries(): 3979, l[2].Series: -300, otherSeries()[0]: 0, {}: 0} {
		n, e := House(l, s)
		checkResult(t, fmt.Sprint(s), n, e, want)
	}
	n, e := House(nil, oilSeries())
	checkResult(t, "of no leg", n, e, 0)
	n, e = House([]api.Leg{{Qty: 4}}, api.Series{})
	checkResult(t, "of a series that is none", n, e, -4)
}

// P13.4: every series for itself.
func TestFlat(t *testing.T) {
	checkFlat(t, "no legs", nil, true)
	checkFlat(t, "no legs in a list", []api.Leg{}, true)
	checkFlat(t, "no lots", legs(0, 0), true)
	checkFlat(t, "one lot", legs(1), false)
	checkFlat(t, "one lot sold", legs(-1), false)
	checkFlat(t, "as many sold as bought", legs(2, 3, -5), true)
	checkFlat(t, "one more", legs(2, 3, -4), false)
	for _, s := range otherSeries() {
		l := legs(2, -2)
		l[1].Series = s
		checkFlat(t, fmt.Sprint("against ", s), l, false)
		l = append(l, Undo(l[1]))
		checkFlat(t, fmt.Sprint("beside ", s), l, false)
		l = append(l, Undo(l[0]))
		checkFlat(t, fmt.Sprint("both and ", s), l, true)
	}
	l := legs(2, -2)
	l[0].Acc, l[0].Price, l[0].Trade = bx, -9, 77
	checkFlat(t, "different accounts, prices and trades", l, true)
	l = mirrored(legs(7, -8))
	l[3].Series.Strike = 1
	checkFlat(t, "the last leg in another series", l, false)
}

// P13.5, P13.6: of random trades, whole and cut short.
func TestNothingIsLost(t *testing.T) {
	r := rand.New(rand.NewSource(135))
	for range 2000 {
		l := All(randomTrades(r))
		checkFlat(t, fmt.Sprint(l), l, true)
		checkSums(t, l)
		checkSums(t, l[:r.Intn(len(l)+1)])
		for _, acc := range []api.Acc{ax, ay, bx} {
			for _, s := range append(otherSeries(), oilSeries()) {
				n, e := Net(mirrored(l), acc, s)
				checkResult(t, fmt.Sprint("with their Undo ", l), n, e, 0)
			}
		}
	}
}

// checkSums holds that all accounts and the house have no lots together, and that Flat says whether the house has none.
func checkSums(t *testing.T, l []api.Leg) {
	t.Helper()
	flat := true
	for _, s := range append(otherSeries(), oilSeries()) {
		house, e := House(l, s)
		flat = flat && house == 0
		for _, acc := range []api.Acc{ax, ay, bx} {
			n, netE := Net(l, acc, s)
			if e != api.OK || netE != api.OK {
				t.Errorf("%v: errors %d, %d", l, e, netE)
			}
			house += n
		}
		if house != 0 {
			t.Errorf("%v: %d lots of %v are lost", l, house, s)
		}
	}
	checkFlat(t, fmt.Sprint(l), l, flat)
}

// General rule 4: arguments stay as they are, with the memory behind them, and results are new memory.
func TestArguments(t *testing.T) {
	trades := []api.Trade{oilTrade(), oddTrade(), oilTrade(), oddTrade()}
	memory := slices.Clone(trades)
	out := All(memory[:2])
	clear(out[:cap(out)])
	if !slices.Equal(memory, trades) {
		t.Errorf("All leaves %v", memory)
	}
	for length := range 7 {
		memory := legs(1, -2, 3, -4, 5, -6)
		memory[2].Acc, memory[4].Series = bx, otherSeries()[0]
		want := slices.Clone(memory)
		Net(memory[:length], ax, oilSeries())
		Cost(memory[:length], ax, oil(), oilSeries())
		House(memory[:length], oilSeries())
		Flat(memory[:length])
		if !slices.Equal(memory, want) {
			t.Errorf("of %d legs: %v; want %v", length, memory, want)
		}
	}
}
