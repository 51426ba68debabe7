package giveup

import (
	"fmt"
	"math"
	"math/big"
	"math/rand"
	"slices"
	"testing"

	"contango/api"
)

const (
	top  = api.MaxPrice
	most = api.MaxList
)

var (
	ax = api.Acc{Member: "a", Name: "x"}
	ay = api.Acc{Member: "a", Name: "y"}
	bx = api.Acc{Member: "b", Name: "x"}
	cx = api.Acc{Member: "c", Name: "x"}
)

// wrongQtys are ints that are not between 1 and MaxQty.
var wrongQtys = []int{math.MinInt, -1 << 32, -api.MaxQty, -1, 0, api.MaxQty + 1, 1 << 32, 1<<32 + 1, math.MaxInt}

// oilTrade is bought by ax from cx.
func oilTrade() api.Trade {
	return api.Trade{
		Id: 7, Day: 5, Time: 60,
		Series: api.Series{Product: "oil", Kind: api.Future, Expiry: 20},
		Qty:    5, Price: 40, Buyer: ax, Seller: cx,
	}
}

// oddTrade returns a trade of which nothing is valid but its Qty.
func oddTrade() api.Trade {
	return api.Trade{Id: math.MinInt, Day: -1, Time: math.MaxInt, Series: api.Series{Product: "?", Kind: 9}, Qty: 5, Price: math.MinInt, Buyer: api.Acc{Name: " "}, Seller: api.Acc{Member: "\xff"}}
}

// otherSeries differ from the series of oilTrade in a single field.
func otherSeries() (l []api.Series) {
	l = slices.Repeat([]api.Series{oilTrade().Series}, 4)
	l[0].Product = "gas"
	l[1].Kind = api.Call
	l[2].Expiry++
	l[3].Strike = 5
	return l
}

// partsOf returns parts of different accounts, with those quantities.
func partsOf(qtys ...int) (l []api.Part) {
	for i, qty := range qtys {
		l = append(l, api.Part{Acc: api.Acc{Member: "p", Name: fmt.Sprint("n", i)}, Qty: qty})
	}
	return l
}

// tradesOf returns trades of one series, from pairs of a quantity and a price.
func tradesOf(pairs ...int) (l []api.Trade) {
	for i := 0; i < len(pairs); i += 2 {
		x := oilTrade()
		x.Id, x.Qty, x.Price = i, pairs[i], pairs[i+1]
		l = append(l, x)
	}
	return l
}

// lots returns a trade of that many lots.
func lots(qty int) api.Trade {
	x := oilTrade()
	x.Qty = qty
	return x
}

func checkError(t *testing.T, what string, e, want api.Errno) {
	t.Helper()
	if e != want {
		t.Errorf("%s: error %d; want %d", what, e, want)
	}
}

func checkTrades(t *testing.T, what string, l []api.Trade, e api.Errno, want []api.Trade) {
	t.Helper()
	if e != api.OK || !slices.Equal(l, want) {
		t.Errorf("%s: %v, error %d; want %v", what, l, e, want)
	}
}

func checkDivideError(t *testing.T, what string, l []api.Trade, e, want api.Errno) {
	t.Helper()
	if e != want || len(l) != 0 {
		t.Errorf("%s: %v, error %d; want error %d", what, l, e, want)
	}
}

func checkAverage(t *testing.T, l []api.Trade, tick, want, wantRest int, wantE api.Errno) {
	t.Helper()
	if price, rest, e := Average(l, tick); price != want || rest != wantRest || e != wantE {
		t.Errorf("%d trades, tick %d: %d, %d, error %d; want %d, %d, error %d", len(l), tick, price, rest, e, want, wantRest, wantE)
	}
}

func checkEven(t *testing.T, l []api.Trade, tick int, parts []api.Part, want int, wantRests []int, wantE api.Errno) {
	t.Helper()
	if price, rests, e := Even(l, tick, parts); price != want || !slices.Equal(rests, wantRests) || e != wantE {
		t.Errorf("%d trades, tick %d, %d parts: %d, %v, error %d; want %d, %v, error %d", len(l), tick, len(parts), price, rests, e, want, wantRests, wantE)
	}
}

// checkDivision holds that Check, Divide for both sides and Even return the same error for parts.
func checkDivision(t *testing.T, what string, qty int, parts []api.Part, want api.Errno) {
	t.Helper()
	checkError(t, what, Check(lots(qty), parts), want)
	for _, bought := range []bool{true, false} {
		l, e := Divide(lots(qty), bought, parts, 1)
		if e != want || want != api.OK && len(l) != 0 {
			t.Errorf("%s: Divide: %v, error %d; want %d", what, l, e, want)
		}
	}
	if qty < 1 || qty > api.MaxQty { // no trade that Even takes
		return
	}
	price, rests, e := Even([]api.Trade{lots(qty)}, 1, parts)
	if e != want || want != api.OK && (price != 0 || len(rests) != 0) {
		t.Errorf("%s: Even: %d, %v, error %d; want %d", what, price, rests, e, want)
	}
}

// P14.1, P14.2, P14.4: the bounds of the parts.
func TestParts(t *testing.T) {
	for _, c := range []struct {
		qty   int
		parts []int
		want  api.Errno
	}{
		{5, []int{5}, api.OK},
		{5, []int{2, 3}, api.OK},
		{5, []int{1, 1, 1, 1, 1}, api.OK},
		{api.MaxQty, []int{api.MaxQty}, api.OK},
		{api.MaxQty, []int{1, api.MaxQty - 1}, api.OK},
		{api.MaxQty + 1, []int{1, api.MaxQty}, api.OK}, // the Qty of the trade is not checked
		{api.MaxQty + 1, []int{api.MaxQty + 1}, api.ErrQty},
		{most, slices.Repeat([]int{1}, most), api.OK},
		{most * api.MaxQty, slices.Repeat([]int{api.MaxQty}, most), api.OK},
		{most*api.MaxQty - 1, slices.Repeat([]int{api.MaxQty}, most), api.ErrQty},
		{5, nil, api.ErrLong},
		{0, nil, api.ErrLong},
		{most + 1, slices.Repeat([]int{1}, most+1), api.ErrLong},
		{1, slices.Repeat([]int{0}, 3*most), api.ErrLong},
		{5, []int{4}, api.ErrQty},
		{5, []int{6}, api.ErrQty},
		{5, []int{2, 2}, api.ErrQty},
		{5, []int{3, 3}, api.ErrQty},
		{0, []int{1}, api.ErrQty},
		{-5, []int{5}, api.ErrQty},
		{1 << 32, []int{1}, api.ErrQty},
		{1<<32 + 5, []int{2, 3}, api.ErrQty},
		{math.MinInt, []int{1}, api.ErrQty},
		{math.MaxInt, []int{1}, api.ErrQty},
		{5, []int{5, 0}, api.ErrQty},
		{5, []int{0, 5}, api.ErrQty},
		{5, []int{6, -1}, api.ErrQty},
		{5, []int{math.MaxInt, 7, math.MinInt, -1}, api.ErrQty},
		{2 << 20, []int{2<<20 - 1, 1}, api.ErrQty},
	} {
		checkDivision(t, fmt.Sprint(c.qty, " lots in ", len(c.parts), " parts"), c.qty, partsOf(c.parts...), c.want)
	}
	for _, qty := range wrongQtys {
		for i := range 3 {
			parts := partsOf(1, 2, 3)
			parts[i].Qty = qty
			sum := parts[0].Qty + parts[1].Qty + parts[2].Qty
			checkDivision(t, fmt.Sprint(parts), sum, parts, api.ErrQty)
		}
	}
}

// P14.1, P14.2, P14.4: an account that occurs twice, anywhere.
func TestPartsOfOneAccount(t *testing.T) {
	parts := []api.Part{{Acc: api.Acc{Member: "a", Name: "b"}, Qty: 1}, {Acc: api.Acc{Member: "a", Name: "c"}, Qty: 1}, {Acc: api.Acc{Member: "b", Name: "b"}, Qty: 1}, {Acc: api.Acc{Member: "ab"}, Qty: 1}, {Acc: api.Acc{Name: "ab"}, Qty: 1}, {Qty: 1}}
	checkDivision(t, "all different", 6, parts, api.OK)
	for i := range parts {
		for j := range i {
			twice := slices.Clone(parts)
			twice[i].Acc = parts[j].Acc
			checkDivision(t, fmt.Sprint(twice), 6, twice, api.ErrAccount)
			twice[j].Qty = 2
			checkDivision(t, fmt.Sprint(twice), 7, twice, api.ErrAccount)
			checkDivision(t, fmt.Sprint(twice), 6, twice, api.ErrQty)
		}
	}
	many := partsOf(slices.Repeat([]int{1}, most)...)
	many[most-1].Acc = many[0].Acc
	checkDivision(t, "the last and the first", most, many, api.ErrAccount)
}

// P14.1: each condition for all parts before the next one.
func TestPartsOrder(t *testing.T) {
	twice := slices.Concat(partsOf(2, 3), partsOf(2, 0))
	checkDivision(t, "an account twice ahead of no lots", 7, twice, api.ErrQty)
	twice[3].Qty = 3
	checkDivision(t, "an account twice, and lots too many", 9, twice, api.ErrQty)
	checkDivision(t, "an account twice", 10, twice, api.ErrAccount)
	checkDivision(t, "too many accounts twice", most+2, slices.Repeat(partsOf(1), most+2), api.ErrLong)
	checkDivision(t, "too many without lots", 9, slices.Repeat(partsOf(0), most+1), api.ErrLong)
}

// P14.1: nothing else of the trade is checked.
func TestCheckOfAnyTrade(t *testing.T) {
	checkError(t, "an odd trade", Check(oddTrade(), partsOf(2, 3)), api.OK)
	checkError(t, "a trade with lots alone", Check(api.Trade{Qty: 5}, partsOf(2, 3)), api.OK)
	for _, acc := range []api.Acc{ax, cx} { // a part may be of either side
		checkError(t, fmt.Sprint(acc), Check(oilTrade(), []api.Part{{Acc: acc, Qty: 5}}), api.OK)
	}
}

// P14.2, P14.6
func TestDivide(t *testing.T) {
	parts := []api.Part{{Acc: bx, Qty: 2}, {Acc: ax, Qty: 1}, {Acc: ay, Qty: 2}}
	for _, x := range []api.Trade{oilTrade(), oddTrade()} {
		for _, first := range []int{1, 100, api.MaxMoney - 2} {
			var bought []api.Trade
			for i, p := range parts {
				y := x
				y.Id, y.Qty, y.Buyer = first+i, p.Qty, p.Acc
				bought = append(bought, y)
			}
			l, e := Divide(x, true, parts, first)
			checkTrades(t, fmt.Sprint("bought, from ", first), l, e, bought)
		}
	}
	x := oilTrade()
	x.Buyer, x.Seller = cx, ax
	l, e := Divide(x, false, parts, 8)
	want := []api.Trade{x, x, x}
	want[0].Id, want[0].Qty, want[0].Seller = 8, 2, bx
	want[1].Id, want[1].Qty, want[1].Seller = 9, 1, ax
	want[2].Id, want[2].Qty, want[2].Seller = 10, 2, ay
	checkTrades(t, "sold", l, e, want)
	l, e = Divide(x, false, []api.Part{{Acc: ay, Qty: 5}}, x.Id)
	x.Seller = ay
	checkTrades(t, "one part with the Id of the trade", l, e, []api.Trade{x})
}

// P14.2: the first Id and the last one, after the error of Check.
func TestDivideIds(t *testing.T) {
	for _, c := range []struct {
		parts, first int
		want         api.Errno
	}{
		{1, 1, api.OK},
		{1, api.MaxMoney, api.OK},
		{1, api.MaxMoney + 1, api.ErrArg},
		{2, api.MaxMoney - 1, api.OK},
		{2, api.MaxMoney, api.ErrArg},
		{most, 1, api.OK},
		{most, api.MaxMoney - most + 1, api.OK},
		{most, api.MaxMoney - most + 2, api.ErrArg},
		{1, 0, api.ErrArg},
		{2, 0, api.ErrArg},
		{1, -1, api.ErrArg},
		{3, math.MinInt, api.ErrArg},
		{1, math.MaxInt, api.ErrArg},
		{3, math.MaxInt, api.ErrArg},
		{most, math.MaxInt - most + 2, api.ErrArg},
	} {
		for _, bought := range []bool{true, false} {
			parts := partsOf(slices.Repeat([]int{1}, c.parts)...)
			l, e := Divide(lots(c.parts), bought, parts, c.first)
			if c.want != api.OK {
				checkDivideError(t, fmt.Sprint(c), l, e, c.want)
			} else if e != api.OK || len(l) != c.parts || l[0].Id != c.first || l[c.parts-1].Id != c.first+c.parts-1 {
				t.Errorf("%v: %v, error %d", c, l, e)
			}
			l, e = Divide(lots(c.parts+1), bought, parts, c.first)
			checkDivideError(t, "lots that are missing", l, e, api.ErrQty)
		}
	}
}

// P14.2: a part of the other side is refused last of all; one of the same side is not.
func TestDivideSides(t *testing.T) {
	for i := range 3 {
		for _, bought := range []bool{true, false} {
			mine, other := ax, cx
			if !bought {
				mine, other = cx, ax
			}
			parts := partsOf(1, 2, 2)
			parts[i].Acc = mine
			if l, e := Divide(oilTrade(), bought, parts, 1); e != api.OK || len(l) != 3 {
				t.Errorf("%v: %v, error %d", parts, l, e)
			}
			parts[i].Acc = other
			l, e := Divide(oilTrade(), bought, parts, 1)
			checkDivideError(t, fmt.Sprint(parts), l, e, api.ErrAccount)
			l, e = Divide(oilTrade(), bought, parts, 0)
			checkDivideError(t, fmt.Sprint(parts), l, e, api.ErrArg)
			parts[i].Qty = 0
			l, e = Divide(oilTrade(), bought, parts, 0)
			checkDivideError(t, fmt.Sprint(parts), l, e, api.ErrQty)
		}
	}
	for _, near := range []api.Acc{{Member: "c", Name: "y"}, {Member: "d", Name: "x"}, {Member: "c"}, {Member: "cx"}, {Member: "x", Name: "c"}} {
		if l, e := Divide(oilTrade(), true, []api.Part{{Acc: near, Qty: 5}}, 1); e != api.OK || len(l) != 1 || l[0].Buyer != near {
			t.Errorf("%v: %v, error %d", near, l, e)
		}
	}
}

// P14.3: the examples, prices below 0, and ticks that are greater than the prices.
func TestAverage(t *testing.T) {
	for _, c := range []struct {
		pairs                []int
		tick, want, wantRest int
	}{
		{[]int{2, 10, 1, 12}, 1, 10, 2},
		{[]int{2, 10, 1, 12}, 5, 10, 2},
		{[]int{2, 10, 1, 12}, 4, 8, 8},
		{[]int{2, 10, 1, 12}, 11, 0, 32},
		{[]int{2, 10, 1, 12}, 2, 10, 2},
		{[]int{2, 10, 1, 13}, 1, 11, 0},
		{[]int{2, 10, 1, 13}, 11, 11, 0},
		{[]int{2, 10, 1, 13}, 12, 0, 33},
		{[]int{1, 7}, 1, 7, 0},
		{[]int{1, 0}, 3, 0, 0},
		{[]int{1, -1}, top, -top, top - 1},
		{[]int{1, -7, 1, -6}, 5, -10, 7},
		{[]int{1, -7, 1, -6}, 1, -7, 1},
		{[]int{3, -5}, 5, -5, 0},
		{[]int{3, -5}, 4, -8, 9},
		{[]int{1, top}, top, top, 0},
		{[]int{1, top}, top - 1, top - 1, 1},
		{[]int{1, -top}, top, -top, 0},
		{[]int{1, -top}, top - 1, 2 - 2*top, top - 2}, // below -MaxPrice, though no price is
		{[]int{api.MaxQty, top, api.MaxQty, -top}, 7, 0, 0},
		{[]int{api.MaxQty, top, api.MaxQty - 1, -top}, 7, 7, top - 7*(2*api.MaxQty-1)},
	} {
		checkAverage(t, tradesOf(c.pairs...), c.tick, c.want, c.wantRest, api.OK)
	}
	for _, price := range []int{top, -top} {
		l := slices.Repeat(tradesOf(api.MaxQty, price), most)
		checkAverage(t, l, top, price, 0, api.OK)
		checkAverage(t, l, 1, price, 0, api.OK)
	}
	l := slices.Repeat(tradesOf(api.MaxQty, top), most)
	checkAverage(t, l, top-1, top-1, most*api.MaxQty, api.OK)
	checkAverage(t, slices.Repeat(tradesOf(api.MaxQty, top-1), most), top, 0, (top-1)*most*api.MaxQty, api.OK)
}

// averageFault is something that Average refuses, put into five trades and a tick.
type averageFault struct {
	what  string
	spoil func(l *[]api.Trade, tick *int)
	e     api.Errno
}

func averageFaults() []averageFault {
	return []averageFault{
		{"tick", func(l *[]api.Trade, tick *int) { *tick = 0 }, api.ErrTick},
		{"long", func(l *[]api.Trade, tick *int) { *l = append(*l, slices.Repeat((*l)[:1], most)...) }, api.ErrLong},
		{"series", func(l *[]api.Trade, tick *int) { (*l)[4].Series.Strike = 1 }, api.ErrSeries},
		{"qty", func(l *[]api.Trade, tick *int) { (*l)[3].Qty = 0 }, api.ErrQty},
		{"price", func(l *[]api.Trade, tick *int) { (*l)[2].Price = top + 1 }, api.ErrPrice},
	}
}

// P14.3, P14.4: of all combinations of faults the first one's error is returned, though the later ones stand ahead in the list.
func TestAverageOrder(t *testing.T) {
	faults := averageFaults()
	for set := 1; set < 1<<len(faults); set++ {
		l, tick, want := tradesOf(1, 9, 1, 9, 1, 9, 1, 9, 1, 9), 3, api.OK
		for i := len(faults) - 1; i >= 0; i-- {
			if set>>i&1 == 1 {
				faults[i].spoil(&l, &tick)
				want = faults[i].e
			}
		}
		checkAverage(t, l, tick, 0, 0, want)
		for _, parts := range [][]api.Part{nil, partsOf(0), partsOf(5), partsOf(2, 3), slices.Concat(partsOf(2), partsOf(3))} {
			checkEven(t, l, tick, parts, 0, nil, want)
		}
	}
}

// P14.3: each bound, in each place.
func TestAverageErrors(t *testing.T) {
	for _, tick := range []int{math.MinInt, -top, -1, 0, top + 1, 1 << 32, 1<<32 + 1, math.MaxInt} {
		checkAverage(t, tradesOf(2, 10), tick, 0, 0, api.ErrTick)
		checkAverage(t, nil, tick, 0, 0, api.ErrTick)
	}
	checkAverage(t, nil, 1, 0, 0, api.ErrLong)
	checkAverage(t, []api.Trade{}, top, 0, 0, api.ErrLong)
	checkAverage(t, slices.Repeat(tradesOf(1, 5), most), 1, 5, 0, api.OK)
	checkAverage(t, slices.Repeat(tradesOf(1, 5), most+1), 1, 0, 0, api.ErrLong)
	for i := range 3 {
		for _, s := range append(otherSeries(), api.Series{}) {
			l := tradesOf(1, 5, 2, 6, 3, 7)
			l[i].Series = s
			checkAverage(t, l, 1, 0, 0, api.ErrSeries)
		}
		for _, qty := range wrongQtys {
			l := tradesOf(1, 5, 2, 6, 3, 7)
			l[i].Qty = qty
			checkAverage(t, l, 1, 0, 0, api.ErrQty)
		}
		for _, price := range []int{math.MinInt, -1 << 32, -top - 1, top + 1, 1 << 32, math.MaxInt} {
			l := tradesOf(1, 5, 2, 6, 3, 7)
			l[i].Price = price
			checkAverage(t, l, 1, 0, 0, api.ErrPrice)
		}
	}
}

// P14.3: nothing else of the trades is checked.
func TestAverageOfAnyTrades(t *testing.T) {
	x, y := oddTrade(), oddTrade()
	x.Qty, x.Price, y.Qty, y.Price = 2, 10, 1, 12
	y.Id, y.Day, y.Time, y.Buyer, y.Seller = 0, math.MaxInt, -4, api.Acc{}, api.Acc{}
	checkAverage(t, []api.Trade{x, y}, 4, 8, 8, api.OK)
	checkAverage(t, []api.Trade{x, x, x}, 4, 8, 12, api.OK)
}

// P14.4: the examples, and parts that are as many as may be.
func TestEven(t *testing.T) {
	l := tradesOf(2, 10, 1, 12)
	checkEven(t, l, 1, partsOf(1, 2), 10, []int{1, 1}, api.OK)
	checkEven(t, l, 1, partsOf(2, 1), 10, []int{1, 1}, api.OK)
	checkEven(t, l, 1, partsOf(3), 10, []int{2}, api.OK)
	checkEven(t, l, 1, partsOf(1, 1, 1), 10, []int{1, 1, 0}, api.OK)
	checkEven(t, l, 4, partsOf(1, 2), 8, []int{3, 5}, api.OK)
	checkEven(t, l, 4, partsOf(2, 1), 8, []int{5, 3}, api.OK)
	checkEven(t, tradesOf(2, 10, 1, 13), 11, partsOf(1, 2), 11, []int{0, 0}, api.OK)
	checkEven(t, tradesOf(1, -7, 1, -6), 5, partsOf(1, 1), -10, []int{4, 3}, api.OK)
	checkEven(t, l, 1, []api.Part{{Acc: ax, Qty: 1}, {Acc: cx, Qty: 2}}, 10, []int{1, 1}, api.OK) // those of the trades
	checkEven(t, l, 1, []api.Part{{Qty: 3}}, 10, []int{2}, api.OK)
	all, half := slices.Repeat(tradesOf(api.MaxQty, top-1), most), (top-1)*api.MaxQty
	checkEven(t, all, top, partsOf(slices.Repeat([]int{api.MaxQty}, most)...), 0, slices.Repeat([]int{half}, most), api.OK)
	all = slices.Concat(tradesOf(1, 6), slices.Repeat(tradesOf(1, 5), most-1))
	checkEven(t, all, 5, partsOf(slices.Repeat([]int{1}, most)...), 5, append([]int{1}, slices.Repeat([]int{0}, most-1)...), api.OK)
}

// P14.4: the parts must add up to the total of all trades, not to one of them.
func TestEvenErrors(t *testing.T) {
	l := tradesOf(2, 10, 1, 12, 4, 11)
	for _, c := range []struct {
		parts []api.Part
		want  api.Errno
	}{
		{nil, api.ErrLong},
		{partsOf(slices.Repeat([]int{1}, most+1)...), api.ErrLong},
		{partsOf(slices.Repeat([]int{0}, most+1)...), api.ErrLong},
		{partsOf(2), api.ErrQty},
		{partsOf(4), api.ErrQty},
		{partsOf(2, 1), api.ErrQty},
		{partsOf(6), api.ErrQty},
		{partsOf(8), api.ErrQty},
		{partsOf(7, 0), api.ErrQty},
		{partsOf(8, -1), api.ErrQty},
		{slices.Concat(partsOf(3), partsOf(3)), api.ErrQty},
		{slices.Concat(partsOf(3), partsOf(4)), api.ErrAccount},
		{slices.Concat(partsOf(3), partsOf(4), partsOf(0)), api.ErrQty},
	} {
		checkEven(t, l, 1, c.parts, 0, nil, c.want)
	}
	two := tradesOf(api.MaxQty, 1, api.MaxQty, 2) // more lots than one part may have
	checkEven(t, two, 1, partsOf(2*api.MaxQty), 0, nil, api.ErrQty)
	checkEven(t, two, 1, partsOf(api.MaxQty, api.MaxQty), 1, []int{api.MaxQty / 2, api.MaxQty / 2}, api.OK)
}

// randomPool returns trades of one series.
func randomPool(r *rand.Rand) (l []api.Trade) {
	bits := r.Intn(20)
	for range 1 + r.Intn(8) {
		l = append(l, tradesOf(1+r.Intn(api.MaxQty)>>bits, (r.Intn(2*top+1)-top)>>r.Intn(25))...)
	}
	return l
}

// randomParts returns parts that add up to so many lots.
func randomParts(r *rand.Rand, total int) []api.Part {
	var qtys []int
	for total > 0 {
		qty := 1 + r.Intn(min(total, api.MaxQty))
		if len(qtys) > 5 { // few parts
			qty = min(total, api.MaxQty)
		}
		qtys, total = append(qtys, qty), total-qty
	}
	return partsOf(qtys...)
}

// P14.3, P14.4, P14.7: of random trades, reckoned by rationals.
func TestNoCentIsLost(t *testing.T) {
	r := rand.New(rand.NewSource(147))
	for range 20000 {
		l, tick := randomPool(r), 1+r.Intn(top)>>r.Intn(24)
		total, cost := 0, 0
		for _, x := range l {
			total, cost = total+x.Qty, cost+x.Qty*x.Price
		}
		price, rest, e := Average(l, tick)
		average, one := big.NewRat(int64(cost), int64(total)), big.NewRat(int64(tick), 1)
		low := big.NewRat(int64(price), 1)
		if e != api.OK || price%tick != 0 || low.Cmp(average) > 0 || low.Add(low, one).Cmp(average) <= 0 || rest < 0 || rest != cost-price*total {
			t.Errorf("%v, tick %d: %d, %d, error %d", l, tick, price, rest, e)
		}
		parts := randomParts(r, total)
		evenPrice, rests, e := Even(l, tick, parts)
		if e != api.OK || evenPrice != price || len(rests) != len(parts) {
			t.Errorf("%v, tick %d: %d, %v, error %d", l, tick, evenPrice, rests, e)
			continue
		}
		for i, p := range parts {
			cost -= p.Qty*price + rests[i]
			if exact := big.NewRat(int64(p.Qty), int64(total)); !isNear(rests[i], exact.Mul(exact, big.NewRat(int64(rest), 1))) {
				t.Errorf("%v, tick %d: %d of the rest %d for %d of %d lots", l, tick, rests[i], rest, p.Qty, total)
			}
		}
		if cost != 0 {
			t.Errorf("%v, tick %d, %v: %d cents are lost", l, tick, parts, cost)
		}
	}
}

// isNear reports whether n deviates from an exact number by less than 1.
func isNear(n int, exact *big.Rat) bool {
	gap := exact.Sub(exact, big.NewRat(int64(n), 1))
	return gap.Abs(gap).Cmp(big.NewRat(1, 1)) < 0
}

// P14.6: of random divisions, the lots, the price and the accounts that stay.
func TestDividedTrades(t *testing.T) {
	r := rand.New(rand.NewSource(146))
	for range 3000 {
		x, bought := lots(1+r.Intn(api.MaxQty)), r.Intn(2) == 0
		parts := randomParts(r, x.Qty)
		l, e := Divide(x, bought, parts, 1)
		if e != api.OK {
			t.Errorf("%v: error %d", parts, e)
		}
		left := x.Qty
		for i, y := range l {
			left -= y.Qty
			acc := &y.Seller
			if bought {
				acc = &y.Buyer
			}
			if *acc != parts[i].Acc {
				t.Errorf("%v: %v", parts[i], y)
			}
			*acc = ax
			if !bought {
				*acc = cx
			}
			y.Id, y.Qty = x.Id, x.Qty
			if y != x {
				t.Errorf("%v is of %v", y, x)
			}
		}
		if left != 0 {
			t.Errorf("%v: %d lots are lost", parts, left)
		}
	}
}

func checkSides(t *testing.T, what string, l []api.Trade, acc api.Acc, s api.Series, wantBought, wantSold int) {
	t.Helper()
	if bought, sold := Sides(l, acc, s); bought != wantBought || sold != wantSold {
		t.Errorf("%s: %d bought, %d sold; want %d, %d", what, bought, sold, wantBought, wantSold)
	}
}

// P14.5: one account and one series, with quantities that may be.
func TestSides(t *testing.T) {
	s := oilTrade().Series
	l := tradesOf(1, 10, 20, 11, 300, 12, 4000, -13)
	l[1].Buyer, l[1].Seller = cx, ax
	l[2].Buyer, l[2].Seller = ax, ax
	l[3].Series = otherSeries()[1]
	checkSides(t, "ax", l, ax, s, 301, 320)
	checkSides(t, "cx", l, cx, s, 20, 1)
	checkSides(t, "ax in another series", l, ax, l[3].Series, 4000, 0)
	checkSides(t, "cx in another series", l, cx, l[3].Series, 0, 4000)
	for _, acc := range []api.Acc{ay, bx, {Member: "a"}, {Name: "x"}, {Member: "ax"}, {Member: "x", Name: "a"}, {}} {
		checkSides(t, fmt.Sprint(acc), l, acc, s, 0, 0)
	}
	for _, other := range otherSeries() {
		checkSides(t, fmt.Sprint(other), l[:3], ax, other, 0, 0)
	}
	checkSides(t, "of no trades", nil, ax, s, 0, 0)
	checkSides(t, "of an account and a series that are none", []api.Trade{{Qty: 4}}, api.Acc{}, api.Series{}, 4, 4)
	odd := oddTrade()
	checkSides(t, "of an odd trade", []api.Trade{odd}, odd.Buyer, odd.Series, 5, 0)
	for _, qty := range wrongQtys {
		checkSides(t, fmt.Sprint(qty, " lots"), tradesOf(2, 1, qty, 1, api.MaxQty, 1), ax, s, 2+api.MaxQty, 0)
		checkSides(t, fmt.Sprint(qty, " lots"), tradesOf(2, 1, qty, 1, api.MaxQty, 1), cx, s, 0, 2+api.MaxQty)
	}
}

// P14.5: only the first MaxList trades count, those that have nothing to do with it among them.
func TestSidesOfMany(t *testing.T) {
	s := oilTrade().Series
	for _, length := range []int{most - 1, most, most + 1, 3 * most} {
		want := min(length, most)
		l := slices.Repeat(tradesOf(api.MaxQty, 1), length)
		checkSides(t, fmt.Sprint(length, " trades"), l, ax, s, want*api.MaxQty, 0)
		l[0].Series, l[1].Qty, l[2].Buyer = api.Series{}, 0, ay
		checkSides(t, fmt.Sprint(length, " trades, three of which do not count"), l, ax, s, (want-3)*api.MaxQty, 0)
		checkSides(t, fmt.Sprint(length, " trades, two of which do not count"), l, cx, s, 0, (want-2)*api.MaxQty)
	}
}

// General rule 4: arguments stay as they are, with the memory behind them, and results are new memory.
func TestArguments(t *testing.T) {
	trades, parts := tradesOf(2, 10, 1, 12, 4, 11), partsOf(3, 2, 2, 9)
	l, p := slices.Clone(trades), slices.Clone(parts)
	for length := range 4 {
		Check(lots(7), p[:length])
		Average(l[:length], 1)
		Sides(l[:length], ax, l[0].Series)
		out, _ := Divide(lots(7), length%2 == 0, p[:length], 1)
		clear(out[:cap(out)])
		_, rests, _ := Even(l[:length], 1, p[:length])
		clear(rests[:cap(rests)])
		if !slices.Equal(l, trades) || !slices.Equal(p, parts) {
			t.Errorf("%d are left as %v, %v", length, l, p)
		}
	}
	checkEven(t, l, 4, p[:3], 8, []int{8, 6, 6}, api.OK)
}
