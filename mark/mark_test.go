package mark

import (
	"fmt"
	"math"
	"math/big"
	"math/rand"
	"slices"
	"testing"

	"contango/api"
	"contango/product"
	"contango/series"
	"contango/tape"
)

// far are ints that are not between -MaxPrice and MaxPrice.
var far = []int{math.MinInt, math.MinInt + 1, -1 << 32, -api.MaxPrice - 1, api.MaxPrice + 1, 1 << 32, 1<<32 + 1, math.MaxInt}

// oil is the product of the chapter's examples.
func oil() api.Product {
	return api.Product{Name: "oil", Mult: 1, Tick: 5, High: 1000}
}

// gas is a product with negative prices.
func gas() api.Product {
	return api.Product{Name: "gas", Cur: 2, Mult: 10, Tick: 3, Low: -60, High: 60}
}

// quote returns the quote of the chapter's examples.
func quote() api.Quote {
	return api.Quote{Ticks: []api.Tick{tick(150, 6, 20), tick(160, 4, 30)}, From: 100, To: 200, Least: 10, Before: 50}
}

// with returns that quote after some changes.
func with(changes ...func(q *api.Quote)) api.Quote {
	q := quote()
	for _, change := range changes {
		change(&q)
	}
	return q
}

func ticks(l ...api.Tick) func(q *api.Quote) {
	return func(q *api.Quote) { q.Ticks = l }
}

func window(from, to, least int) func(q *api.Quote) {
	return func(q *api.Quote) { q.From, q.To, q.Least = from, to, least }
}

func sides(bid, ask int) func(q *api.Quote) {
	return func(q *api.Quote) { q.Bid, q.Ask = bid, ask }
}

func day(before, move int) func(q *api.Quote) {
	return func(q *api.Quote) { q.Before, q.Move = before, move }
}

func tick(time, qty, price int) api.Tick {
	return api.Tick{Time: time, Qty: qty, Price: price}
}

// future returns a series; a greater n makes a greater one.
func future(n int) api.Series {
	return api.Series{Product: "oil", Kind: api.Future, Expiry: n}
}

// odd returns a series of which nothing is valid, and which is less than all futures.
func odd() api.Series {
	return api.Series{Product: "?", Kind: -9, Expiry: math.MinInt, Strike: math.MaxInt}
}

func mark(n, price int) api.Mark {
	return api.Mark{Series: future(n), Price: price}
}

// many returns so many valid marks, of future(0), future(2), future(4) and so on.
func many(n int) (l []api.Mark) {
	for i := range n {
		l = append(l, mark(2*i, i-7))
	}
	return l
}

// guarded returns a list with memory beyond its end, and a function that reports whether nothing of both has changed.
func guarded[T comparable](l []T, beyond T) (given []T, unchanged func() bool) {
	whole := append(slices.Clone(l), beyond, beyond)
	before := slices.Clone(whole)
	return whole[:len(l)], func() bool { return slices.Equal(whole, before) }
}

// spoil overwrites a result with all of its memory, so that what shares it with others is found out.
func spoil(l []api.Mark) {
	l = l[:cap(l)]
	for i := range l {
		l[i] = mark(-1, -2)
	}
}

func checkError(t *testing.T, what string, e, want api.Errno) {
	t.Helper()
	if e != want {
		t.Errorf("%s: error %d; want %d", what, e, want)
	}
}

// checkQuote holds the error of a quote, that Price returns it too, and that both leave the quote as it is.
func checkQuote(t *testing.T, what string, p api.Product, q api.Quote, want api.Errno) {
	t.Helper()
	var unchanged func() bool
	q.Ticks, unchanged = guarded(q.Ticks, tick(901, 902, 903))
	checkError(t, what+": Check", Check(p, q), want)
	price, rule, e := Price(p, q)
	checkError(t, what+": Price", e, want)
	if e != api.OK && (price != 0 || rule != 0) {
		t.Errorf("%s: %d by rule %d beside error %d", what, price, rule, e)
	}
	if !unchanged() {
		t.Errorf("%s: the ticks have changed", what)
	}
}

// checkPrice holds what Price returns for a quote without an error.
func checkPrice(t *testing.T, what string, p api.Product, q api.Quote, wantPrice, wantRule int) {
	t.Helper()
	checkQuote(t, what, p, q, api.OK)
	if price, rule, _ := Price(p, q); price != wantPrice || rule != wantRule {
		t.Errorf("%s: %d by rule %d; want %d by rule %d", what, price, rule, wantPrice, wantRule)
	}
}

func checkMid(t *testing.T, bid, ask, step, want int, wantError api.Errno) {
	t.Helper()
	if price, e := Mid(bid, ask, step); price != want || e != wantError {
		t.Errorf("the middle of %d and %d by %d: %d, error %d; want %d, error %d", bid, ask, step, price, e, want, wantError)
	}
}

// checkPut holds what Put returns, that it leaves its argument as it is, and that it shares no memory with it.
func checkPut(t *testing.T, what string, l []api.Mark, m api.Mark, wantError api.Errno, want ...api.Mark) {
	t.Helper()
	given, unchanged := guarded(l, mark(901, 902))
	out, e := Put(given, m)
	checkError(t, what, e, wantError)
	if !slices.Equal(out, want) {
		t.Errorf("%s: %v; want %v", what, out, want)
	}
	spoil(out)
	if !unchanged() {
		t.Errorf("%s: the argument has changed", what)
	}
}

// P18.1
func TestCheck(t *testing.T) {
	for what, q := range map[string]api.Quote{
		"the example":                 quote(),
		"no ticks":                    with(ticks()),
		"the whole day":               with(window(0, 86399, 10)),
		"the first second":            with(window(0, 0, 10)),
		"the last second":             with(window(86399, 86399, 10)),
		"one lot":                     with(window(100, 200, 1)),
		"the most lots":               with(window(100, 200, api.MaxQty)),
		"a bid alone":                 with(sides(5, 0)),
		"a bid alone, at the top":     with(sides(1000, 0)),
		"an ask alone":                with(sides(0, 5)),
		"an ask alone, at the top":    with(sides(0, 1000)),
		"equal sides":                 with(sides(25, 25)),
		"both sides":                  with(sides(5, 1000)),
		"no price on the day before":  with(day(0, 0)),
		"the highest one before":      with(day(1000, 0)),
		"the greatest move":           with(day(50, api.MaxPrice)),
		"the greatest move downwards": with(day(50, -api.MaxPrice)),
		"a move between ticks":        with(day(50, 1)),
		"prices at the bounds":        with(ticks(tick(0, 1, 0), tick(86399, api.MaxQty, 1000))),
	} {
		checkQuote(t, what, oil(), q, api.OK)
	}
	checkQuote(t, "negative prices", gas(), with(ticks(tick(1, 1, -60)), sides(-60, -57), day(-3, -1)), api.OK)
	checkQuote(t, "a negative bid, and no ask", gas(), with(ticks(), sides(-3, 0), day(0, 0)), api.OK)
	checkQuote(t, "no bid, and a negative ask", gas(), with(ticks(), sides(0, -3), day(0, 0)), api.OK)
}

// P18.1
func TestCheckInvalid(t *testing.T) {
	long := make([]api.Tick, api.MaxList+1)
	for what, c := range map[string]struct {
		q api.Quote
		e api.Errno
	}{
		"too many ticks":                   {with(ticks(long...)), api.ErrLong},
		"a time of no day":                 {with(ticks(tick(86400, 1, 20))), api.ErrArg},
		"back in time":                     {with(ticks(tick(150, 1, 20), tick(149, 1, 20))), api.ErrArg},
		"no lots":                          {with(ticks(tick(150, 0, 20))), api.ErrQty},
		"a price beyond the greatest":      {with(ticks(tick(150, 1, api.MaxPrice+5))), api.ErrPrice},
		"the window ahead of the day":      {with(window(-1, 200, 10)), api.ErrArg},
		"it begins after the day":          {with(window(86400, 86400, 10)), api.ErrArg},
		"it ends after the day":            {with(window(100, 86400, 10)), api.ErrArg},
		"it ends ahead of the day":         {with(window(-5, -1, 10)), api.ErrArg},
		"it ends ahead of its begin":       {with(window(201, 200, 10)), api.ErrArg},
		"the ends are exchanged":           {with(window(86399, 0, 10)), api.ErrArg},
		"least no lots":                    {with(window(100, 200, 0)), api.ErrQty},
		"least fewer than none":            {with(window(100, 200, -1)), api.ErrQty},
		"least too many":                   {with(window(100, 200, api.MaxQty+1)), api.ErrQty},
		"a tick above the highest price":   {with(ticks(tick(150, 1, 1005))), api.ErrPrice},
		"a tick below the lowest price":    {with(ticks(tick(150, 1, -5))), api.ErrPrice},
		"a tick between prices":            {with(ticks(tick(150, 1, 21))), api.ErrTick},
		"a tick out of the window":         {with(ticks(tick(50, 1, 21))), api.ErrTick},
		"the second tick":                  {with(ticks(tick(150, 1, 20), tick(150, 1, 21))), api.ErrTick},
		"the first error of two ticks":     {with(ticks(tick(150, 1, 21), tick(150, 1, 1005))), api.ErrTick},
		"the other way":                    {with(ticks(tick(150, 1, 1005), tick(150, 1, 21))), api.ErrPrice},
		"a bid between prices":             {with(sides(21, 0)), api.ErrTick},
		"a bid above the highest price":    {with(sides(1005, 0)), api.ErrPrice},
		"a bid below the lowest price":     {with(sides(-5, 0)), api.ErrPrice},
		"an ask between prices":            {with(sides(0, 21)), api.ErrTick},
		"an ask above the highest price":   {with(sides(0, 1005)), api.ErrPrice},
		"an ask below the lowest price":    {with(sides(0, -5)), api.ErrPrice},
		"the day before between prices":    {with(day(51, 0)), api.ErrTick},
		"above the highest price":          {with(day(1005, 0)), api.ErrPrice},
		"below the lowest price":           {with(day(-5, 0)), api.ErrPrice},
		"the bid above the ask":            {with(sides(25, 20)), api.ErrPrice},
		"at the bounds":                    {with(sides(1000, 5)), api.ErrPrice},
		"a move beyond the greatest":       {with(day(50, api.MaxPrice+1)), api.ErrPrice},
		"a move beyond the greatest, down": {with(day(50, -api.MaxPrice-1)), api.ErrPrice},
	} {
		checkQuote(t, what, oil(), c.q, c.e)
	}
	for _, n := range far {
		what := fmt.Sprint(n)
		checkQuote(t, what+" as From", oil(), with(window(n, 200, 10)), api.ErrArg)
		checkQuote(t, what+" as To", oil(), with(window(100, n, 10)), api.ErrArg)
		checkQuote(t, what+" as both", oil(), with(window(n, n, 10)), api.ErrArg)
		checkQuote(t, what+" as Least", oil(), with(window(100, 200, n)), api.ErrQty)
		checkQuote(t, what+" as a price", oil(), with(ticks(tick(150, 1, n))), api.ErrPrice)
		checkQuote(t, what+" as Bid", oil(), with(sides(n, 0)), api.ErrPrice)
		checkQuote(t, what+" as Ask", oil(), with(sides(0, n)), api.ErrPrice)
		checkQuote(t, what+" as Before", oil(), with(day(n, 0)), api.ErrPrice)
		checkQuote(t, what+" as Move", oil(), with(day(50, n)), api.ErrPrice)
	}
}

// P18.1: a quote of a product that is none.
func TestCheckProduct(t *testing.T) {
	for what, c := range map[string]struct {
		p api.Product
		e api.Errno
	}{
		"no product":  {api.Product{}, api.ErrName},
		"no currency": {api.Product{Name: "oil", Cur: api.MaxCur, Mult: 1, Tick: 5, High: 1000}, api.ErrRate},
		"no value":    {api.Product{Name: "oil", Tick: 5, High: 1000}, api.ErrArg},
		"no tick":     {api.Product{Name: "oil", Mult: 1, High: 1000}, api.ErrTick},
		"no range":    {api.Product{Name: "oil", Mult: 1, Tick: 5, Low: 5}, api.ErrPrice},
	} {
		checkQuote(t, what, c.p, quote(), c.e)
		checkQuote(t, what+", and no quote", c.p, api.Quote{Ticks: make([]api.Tick, api.MaxList+1), Move: math.MaxInt}, c.e)
	}
}

// P18.1: of several errors the one that the chapter names first.
func TestCheckOrder(t *testing.T) {
	faults := []struct {
		what  string
		spoil func(p *api.Product, q *api.Quote)
		e     api.Errno
	}{
		{"the product", func(p *api.Product, q *api.Quote) { p.Mult = 0 }, api.ErrArg},
		{"the tape", func(p *api.Product, q *api.Quote) { q.Ticks[1].Qty = 0 }, api.ErrQty},
		{"the window", func(p *api.Product, q *api.Quote) { q.To = 99 }, api.ErrArg},
		{"Least", func(p *api.Product, q *api.Quote) { q.Least = 0 }, api.ErrQty},
		{"the first tick", func(p *api.Product, q *api.Quote) { q.Ticks[0].Price = 21 }, api.ErrTick},
		{"the second tick", func(p *api.Product, q *api.Quote) { q.Ticks[1].Price = 1005 }, api.ErrPrice},
		{"Bid", func(p *api.Product, q *api.Quote) { q.Bid = 101 }, api.ErrTick},
		{"Ask", func(p *api.Product, q *api.Quote) { q.Ask = -5 }, api.ErrPrice},
		{"Before", func(p *api.Product, q *api.Quote) { q.Before = 51 }, api.ErrTick},
		{"the order of the sides", func(p *api.Product, q *api.Quote) {
			if q.Bid == 100 && q.Ask == 105 { // neither has a fault of its own
				q.Bid, q.Ask = 105, 100
			}
		}, api.ErrPrice},
		{"Move", func(p *api.Product, q *api.Quote) { q.Move = api.MaxPrice + 1 }, api.ErrPrice},
	}
	for bits := range 1 << len(faults) {
		p, q := oil(), with(sides(100, 105))
		what, want := "", api.OK
		for i, fault := range faults {
			if bits>>i&1 == 0 {
				continue
			}
			fault.spoil(&p, &q)
			what += fault.what + " "
			if want == api.OK {
				want = fault.e
			}
		}
		checkQuote(t, what, p, q, want)
	}
}

// P18.2: the price is that of the first rule that applies.
func TestPrice(t *testing.T) {
	few := window(100, 200, 11)
	for _, c := range []struct {
		what        string
		q           api.Quote
		price, rule int
	}{
		{"rule 1", quote(), 25, 1},
		{"rule 1 ahead of rule 2", with(sides(35, 50)), 25, 1},
		{"rule 1: neither raised to the bid", with(sides(35, 0)), 25, 1},
		{"rule 1: nor lowered to the ask", with(sides(0, 15)), 25, 1},
		{"rule 1: one tick of the window", with(window(150, 150, 6)), 20, 1},
		{"rule 1: the other one", with(window(151, 160, 4)), 30, 1},
		{"rule 1: ticks out of the window do not count", with(window(151, 160, 5)), 30, 3},
		{"rule 1: both ends count", with(window(150, 160, 10)), 25, 1},
		{"rule 1: one lot too few", with(few), 30, 3},
		{"rule 1: one of the ticks too late", with(window(100, 159, 10)), 30, 3},
		{"rule 1: one of the ticks too early", with(window(151, 200, 10)), 30, 3},
		{"rule 1: a tie goes to the even one", with(ticks(tick(150, 5, 20), tick(150, 5, 25))), 20, 1},
		{"rule 1: upwards too", with(ticks(tick(150, 5, 25), tick(150, 5, 30))), 30, 1},
		{"rule 2", with(few, sides(35, 50)), 40, 2},
		{"rule 2: a tie goes to the even one", with(few, sides(20, 25)), 20, 2},
		{"rule 2: upwards too", with(few, sides(25, 30)), 30, 2},
		{"rule 2 without a tick", with(ticks(), sides(20, 30)), 25, 2},
		{"rule 2 with equal sides", with(few, sides(35, 35)), 35, 2},
		{"rule 3", with(few), 30, 3},
		{"rule 3: above the bid", with(few, sides(25, 0)), 30, 3},
		{"rule 3: at the bid", with(few, sides(30, 0)), 30, 3},
		{"rule 3: below the bid", with(few, sides(35, 0)), 35, 3},
		{"rule 3: below the ask", with(few, sides(0, 35)), 30, 3},
		{"rule 3: at the ask", with(few, sides(0, 30)), 30, 3},
		{"rule 3: above the ask", with(few, sides(0, 25)), 25, 3},
		{"rule 3: a tick before the window", with(window(170, 200, 1)), 30, 3},
		{"rule 3: a tick behind the window", with(window(0, 100, 1)), 30, 3},
		{"rule 3: the day before plays no part", with(few, day(700, 50)), 30, 3},
		{"rule 4", with(ticks()), 50, 4},
		{"rule 4: a move", with(ticks(), day(50, -7)), 45, 4},
		{"rule 4: a greater one", with(ticks(), day(50, -8)), 40, 4},
		{"rule 4: upwards", with(ticks(), day(50, 3)), 55, 4},
		{"rule 4: the bid alone plays no part", with(ticks(), sides(90, 0)), 50, 4},
		{"rule 4: nor does the ask alone", with(ticks(), sides(0, 5)), 50, 4},
		{"rule 4: at the highest price", with(ticks(), day(1000, 0)), 1000, 4},
		{"rule 4: beyond the highest price", with(ticks(), day(1000, 3)), 1000, 4},
		{"rule 4: below the lowest price", with(ticks(), day(0, -3)), 0, 4},
		{"rule 4: far beyond", with(ticks(), day(1000, api.MaxPrice)), 1000, 4},
		{"rule 4: far below", with(ticks(), day(0, -api.MaxPrice)), 0, 4},
	} {
		checkPrice(t, c.what, oil(), c.q, c.price, c.rule)
	}
}

// P18.2: prices below 0, and sides of 0, which are none.
func TestPriceNegative(t *testing.T) {
	few := window(0, 86399, 100)
	for _, c := range []struct {
		what        string
		q           api.Quote
		price, rule int
	}{
		{"rule 1", with(ticks(tick(150, 6, -60), tick(150, 4, -57)), day(0, 0)), -60, 1},
		{"rule 1: upwards", with(ticks(tick(150, 4, -60), tick(150, 6, -57)), day(0, 0)), -57, 1},
		{"rule 2", with(ticks(), sides(-60, 60), day(0, 0)), 0, 2},
		{"rule 2: a tie", with(ticks(), sides(-3, 6), day(0, 0)), 0, 2},
		{"rule 2: below 0", with(ticks(), sides(-9, -6), day(0, 0)), -6, 2},
		{"rule 3: below the bid", with(few, ticks(tick(1, 1, -60)), sides(-3, 0), day(0, 0)), -3, 3},
		{"rule 3: above the ask", with(few, ticks(tick(1, 1, 3)), sides(0, -3), day(0, 0)), -3, 3},
		{"rule 3: no bid", with(few, ticks(tick(1, 1, -6)), sides(0, 3), day(0, 0)), -6, 3},
		{"rule 3: no ask", with(few, ticks(tick(1, 1, 6)), sides(-3, 0), day(0, 0)), 6, 3},
		{"rule 3: a last price of 0", with(few, ticks(tick(1, 1, 9), tick(1, 1, 0)), day(9, 0)), 0, 3},
		{"rule 4", with(ticks(), day(-6, -2)), -9, 4},
		{"rule 4: the nearer one", with(ticks(), day(-6, -1)), -6, 4},
		{"rule 4: below the lowest price", with(ticks(), day(-60, -2)), -60, 4},
	} {
		checkPrice(t, c.what, gas(), c.q, c.price, c.rule)
	}
}

// P18.2: sums of Before and Move that are beyond all prices.
func TestPriceFarMoves(t *testing.T) {
	widest := api.Product{Name: "w", Mult: 1, Tick: 1, Low: -api.MaxPrice, High: api.MaxPrice}
	for _, before := range []int{-api.MaxPrice, -api.MaxPrice + 1, -1, 0, 1, api.MaxPrice - 1, api.MaxPrice} {
		for _, move := range []int{-api.MaxPrice, -2, -1, 0, 1, 2, api.MaxPrice} {
			want := max(-api.MaxPrice, min(api.MaxPrice, before+move))
			checkPrice(t, fmt.Sprintf("%d moved by %d", before, move), widest, with(ticks(), day(before, move)), want, 4)
		}
	}
	coarse := api.Product{Name: "c", Mult: 1, Tick: 3 << 22, Low: -3 << 22, High: 3 << 22}
	checkPrice(t, "a coarse tick", coarse, with(ticks(), day(3<<22, api.MaxPrice)), 3<<22, 4)
	checkPrice(t, "a coarse tick, downwards", coarse, with(ticks(), day(-3<<22, -api.MaxPrice)), -3<<22, 4)
}

// P18.2: the greatest tape that may be.
func TestPriceMostLots(t *testing.T) {
	widest := api.Product{Name: "w", Mult: 1, Tick: api.MaxPrice, Low: -api.MaxPrice, High: api.MaxPrice}
	for _, price := range []int{-api.MaxPrice, 0, api.MaxPrice} {
		l := make([]api.Tick, api.MaxList)
		for i := range l {
			l[i] = tick(i, api.MaxQty, price)
		}
		q := with(ticks(l...), window(0, 86399, api.MaxQty), day(0, 0))
		checkPrice(t, fmt.Sprintf("all at %d", price), widest, q, price, 1)
	}
}

// P18.3
func TestMid(t *testing.T) {
	for _, c := range [][4]int{
		{20, 25, 5, 20}, {25, 30, 5, 30}, {-25, -20, 5, -20}, {-30, -25, 5, -30}, {-5, 0, 5, 0},
		{1, 2, 1, 2}, {2, 3, 1, 2}, {-2, -1, 1, -2}, {-1, 0, 1, 0}, {0, 1, 1, 0},
		{7, 7, 7, 7}, {0, 0, 9, 0}, {7, 7, 5, 5}, {8, 8, 5, 10}, {-7, -7, 5, -5}, {-8, -8, 5, -10},
		{7, 8, 5, 10}, {7, 7, 2, 8}, {5, 5, 2, 4}, {1, 1, 2, 0}, {-1, -1, 2, 0}, {-3, -3, 2, -4},
		{-10, 10, 5, 0}, {-10, 20, 5, 5}, {-api.MaxPrice, api.MaxPrice, 1, 0},
		{api.MaxPrice, api.MaxPrice, 1, api.MaxPrice}, {-api.MaxPrice, -api.MaxPrice, 1, -api.MaxPrice},
		{api.MaxPrice, api.MaxPrice, api.MaxPrice, api.MaxPrice}, {-api.MaxPrice, -api.MaxPrice, api.MaxPrice, -api.MaxPrice},
		{0, api.MaxPrice, api.MaxPrice, 0}, {1, api.MaxPrice, api.MaxPrice, api.MaxPrice},
		{api.MaxPrice, api.MaxPrice, 10000000, 20000000}, // a multiple of tick, even beyond the greatest price
	} {
		checkMid(t, c[0], c[1], c[2], c[3], api.OK)
	}
}

// P18.3: tick first.
func TestMidErrors(t *testing.T) {
	for _, step := range append([]int{-1, 0}, far...) {
		checkMid(t, 1, 2, step, 0, api.ErrTick)
		checkMid(t, 2, 1, step, 0, api.ErrTick)
		checkMid(t, math.MinInt, math.MaxInt, step, 0, api.ErrTick)
	}
	for _, step := range []int{1, api.MaxPrice} {
		for _, n := range far {
			checkMid(t, n, 0, step, 0, api.ErrPrice)
			checkMid(t, 0, n, step, 0, api.ErrPrice)
			checkMid(t, n, n, step, 0, api.ErrPrice)
			checkMid(t, -api.MaxPrice, n, step, 0, api.ErrPrice)
			checkMid(t, n, api.MaxPrice, step, 0, api.ErrPrice)
		}
		checkMid(t, 2, 1, step, 0, api.ErrPrice)
		checkMid(t, -1, -2, step, 0, api.ErrPrice)
		checkMid(t, api.MaxPrice, -api.MaxPrice, step, 0, api.ErrPrice)
	}
}

// P18.4
func TestCheckAll(t *testing.T) {
	for what, l := range map[string][]api.Mark{
		"none":               nil,
		"an empty list":      {},
		"one":                {mark(20, 5)},
		"two":                {mark(20, 5), mark(21, 5)},
		"prices any of all":  {mark(20, api.MaxPrice), mark(21, -api.MaxPrice), mark(22, 0)},
		"a series not known": {{Series: odd()}, mark(20, 5)},
		"no series":          {{}},
		"the most":           many(api.MaxSeries),
	} {
		checkError(t, what, CheckAll(l), api.OK)
	}
	for what, c := range map[string]struct {
		l []api.Mark
		e api.Errno
	}{
		"one too many":                 {many(api.MaxSeries + 1), api.ErrLong},
		"far too many":                 {many(5000), api.ErrLong},
		"too many, all wrong":          {make([]api.Mark, api.MaxSeries+1), api.ErrLong},
		"twice":                        {[]api.Mark{mark(20, 5), mark(20, 5)}, api.ErrSeries},
		"twice, at other prices":       {[]api.Mark{mark(20, 5), mark(20, 6)}, api.ErrSeries},
		"the wrong way":                {[]api.Mark{mark(21, 5), mark(20, 6)}, api.ErrSeries},
		"equal to one farther ahead":   {[]api.Mark{mark(1, 1), mark(2, 1), mark(1, 1)}, api.ErrSeries},
		"the last of many":             {append(many(api.MaxSeries-1), mark(0, 0)), api.ErrSeries},
		"a series and a price":         {[]api.Mark{mark(2, 0), mark(1, math.MaxInt)}, api.ErrSeries},
		"a price, then a series":       {[]api.Mark{mark(2, math.MaxInt), mark(1, 0)}, api.ErrPrice},
		"a series, then a price":       {[]api.Mark{mark(2, 0), mark(1, 0), mark(3, math.MaxInt)}, api.ErrSeries},
		"a price of one farther ahead": {[]api.Mark{mark(1, 0), mark(2, math.MinInt), mark(2, 0)}, api.ErrPrice},
	} {
		checkError(t, what, CheckAll(c.l), c.e)
		for _, price := range []int{5, math.MaxInt} {
			checkPut(t, what+": Put", c.l, mark(9, price), c.e)
		}
	}
	for i := range api.MaxSeries {
		for _, n := range far {
			l := many(api.MaxSeries)
			l[i].Price = n
			checkError(t, fmt.Sprintf("a price of %d at %d", n, i), CheckAll(l), api.ErrPrice)
		}
	}
}

// P18.4: series ascend as series.Compare orders them.
func TestCheckAllSeries(t *testing.T) {
	ascending := []api.Series{
		odd(),
		{Product: "gas", Kind: api.Put, Expiry: 90, Strike: 50},
		{Product: "oil", Kind: api.Put, Expiry: 10, Strike: 50},
		{Product: "oil", Kind: api.Future, Expiry: 20},
		{Product: "oil", Kind: api.Call, Expiry: 20, Strike: -50},
		{Product: "oil", Kind: api.Call, Expiry: 20, Strike: 40},
		{Product: "oil", Kind: api.Put, Expiry: 20, Strike: -60},
		{Product: "oila", Kind: api.Future, Expiry: 5},
	}
	var all []api.Mark
	for i, a := range ascending {
		for j, b := range ascending {
			want := api.ErrSeries
			if i < j {
				want = api.OK
			}
			checkError(t, fmt.Sprintf("%v, %v", a, b), CheckAll([]api.Mark{{Series: a}, {Series: b}}), want)
		}
		all = append(all, api.Mark{Series: a, Price: i})
	}
	for i, m := range all {
		rest := slices.Concat(all[:i], all[i+1:])
		checkPut(t, fmt.Sprintf("%v in its place", m.Series), rest, m, api.OK, all...)
	}
}

// P18.4
func TestFind(t *testing.T) {
	l := []api.Mark{mark(7, -1), mark(3, 9), mark(7, 2), {Series: odd(), Price: math.MinInt}, mark(4, 0), {Price: math.MaxInt}}
	for _, i := range []int{0, 1, 3, 4, 5} {
		given, unchanged := guarded(l, mark(901, 902))
		if price, ok := Find(given, l[i].Series); price != l[i].Price || !ok {
			t.Errorf("%v: %d, %t; want %d", l[i].Series, price, ok, l[i].Price)
		}
		if !unchanged() {
			t.Errorf("%v: the argument has changed", l[i].Series)
		}
	}
	for _, s := range []api.Series{future(5), {Product: "gas", Kind: api.Future, Expiry: 7}, {Product: "oil", Kind: api.Call, Expiry: 7}, {Product: "oil", Kind: api.Future, Expiry: 7, Strike: 1}} {
		if price, ok := Find(l, s); price != 0 || ok {
			t.Errorf("%v, which is not there: %d, %t", s, price, ok)
		}
		if price, ok := Find(nil, s); price != 0 || ok {
			t.Errorf("%v in no list: %d, %t", s, price, ok)
		}
	}
	long := many(5000)
	if price, ok := Find(long, long[4999].Series); price != long[4999].Price || !ok {
		t.Errorf("the last of more than MaxSeries: %d, %t", price, ok)
	}
}

// P18.4
func TestPut(t *testing.T) {
	two := []api.Mark{mark(20, 5), mark(30, 6)}
	checkPut(t, "into none", nil, mark(20, 7), api.OK, mark(20, 7))
	checkPut(t, "the first one", two, mark(10, 7), api.OK, mark(10, 7), mark(20, 5), mark(30, 6))
	checkPut(t, "between", two, mark(25, 7), api.OK, mark(20, 5), mark(25, 7), mark(30, 6))
	checkPut(t, "the last one", two, mark(40, 7), api.OK, mark(20, 5), mark(30, 6), mark(40, 7))
	checkPut(t, "in the place of the first one", two, mark(20, 7), api.OK, mark(20, 7), mark(30, 6))
	checkPut(t, "in the place of the last one", two, mark(30, 7), api.OK, mark(20, 5), mark(30, 7))
	checkPut(t, "the same price", two, mark(30, 6), api.OK, two...)
	checkPut(t, "a series not known", two, api.Mark{Series: odd(), Price: 1}, api.OK, api.Mark{Series: odd(), Price: 1}, mark(20, 5), mark(30, 6))
	for _, price := range []int{-api.MaxPrice, 0, api.MaxPrice} {
		checkPut(t, fmt.Sprintf("a price of %d", price), two, mark(20, price), api.OK, mark(20, price), mark(30, 6))
	}
	for _, price := range far {
		checkPut(t, fmt.Sprintf("a price of %d", price), two, mark(20, price), api.ErrPrice)
		checkPut(t, fmt.Sprintf("a new one at %d", price), two, mark(25, price), api.ErrPrice)
		checkPut(t, fmt.Sprintf("one too many at %d", price), many(api.MaxSeries), mark(25, price), api.ErrPrice)
	}
}

// P18.4: at most MaxSeries marks; a price may be replaced even then.
func TestPutLength(t *testing.T) {
	full := many(api.MaxSeries)
	for _, n := range []int{-1, 1, 101, 2*api.MaxSeries - 1, math.MaxInt} {
		checkPut(t, fmt.Sprintf("one too many, %d", n), full, mark(n, 5), api.ErrLong)
	}
	for i, m := range full {
		want := slices.Clone(full)
		want[i].Price = 77
		checkPut(t, fmt.Sprintf("replaced at %d", i), full, api.Mark{Series: m.Series, Price: 77}, api.OK, want...)
		less := slices.Concat(full[:i], full[i+1:])
		checkPut(t, fmt.Sprintf("the last one that may be, at %d", i), less, m, api.OK, full...)
	}
}

// random returns a valid product and a valid quote of it.
func random(r *rand.Rand) (p api.Product, q api.Quote) {
	p = api.Product{Name: "p", Mult: 1, Tick: 1 + r.Intn(7)}
	low := r.Intn(11) - 8
	high := low + r.Intn(9)
	p.Low, p.High = low*p.Tick, high*p.Tick
	some := func() int { return (low + r.Intn(high-low+1)) * p.Tick }
	for time := range r.Intn(6) {
		q.Ticks = append(q.Ticks, tick(time, 1+r.Intn(4), some()))
	}
	q.From = r.Intn(5)
	q.To = q.From + r.Intn(5)
	q.Least = 1 + r.Intn(8)
	bid, ask := some(), some()
	if r.Intn(2) == 0 {
		q.Bid = min(bid, ask)
	}
	if r.Intn(2) == 0 {
		q.Ask = max(bid, ask)
	}
	q.Before = some()
	q.Move = r.Intn(41) - 20
	return p, q
}

// nearest returns the multiple of step that is nearest to a / b, of two that are as near the even one.
func nearest(a, b, step int) int {
	exact := big.NewRat(int64(a), int64(b*step))
	floor := new(big.Int).Div(exact.Num(), exact.Denom())
	rest := new(big.Rat).Sub(exact, new(big.Rat).SetInt(floor))
	n := int(floor.Int64())
	switch rest.Cmp(big.NewRat(1, 2)) {
	case 1:
		n++
	case 0:
		n += n & 1
	}
	return n * step
}

// expected returns a quote's price and rule, rule by rule as P18.2 has them.
func expected(p api.Product, q api.Quote) (price, rule int) {
	lots, value := 0, 0
	for _, t := range q.Ticks {
		if t.Time >= q.From && t.Time <= q.To {
			lots, value = lots+t.Qty, value+t.Qty*t.Price
		}
	}
	switch {
	case lots >= q.Least:
		return nearest(value, lots, p.Tick), 1
	case q.Bid != 0 && q.Ask != 0:
		return nearest(q.Bid+q.Ask, 2, p.Tick), 2
	case len(q.Ticks) > 0:
		price = q.Ticks[len(q.Ticks)-1].Price
		if q.Bid != 0 && price < q.Bid {
			price = q.Bid
		}
		if q.Ask != 0 && price > q.Ask {
			price = q.Ask
		}
		return price, 3
	}
	return max(p.Low, min(p.High, nearest(q.Before+q.Move, 1, p.Tick))), 4
}

// P18.2, P18.5
func TestPriceRules(t *testing.T) {
	r := rand.New(rand.NewSource(18))
	var seen [5]int
	for range 20000 {
		p, q := random(r)
		price, rule, e := Price(p, q)
		wantPrice, wantRule := expected(p, q)
		if price != wantPrice || rule != wantRule || e != api.OK {
			t.Fatalf("%v, %v: %d by rule %d, error %d; want %d by rule %d", p, q, price, rule, e, wantPrice, wantRule)
		}
		seen[rule]++
		checkError(t, fmt.Sprintf("%v, %v: product.Price of %d", p, q, price), product.Price(p, price), api.OK)
		if rule == 1 {
			low, high, ok := tape.Range(tape.Window(q.Ticks, q.From, q.To))
			if !ok || price < low || price > high {
				t.Errorf("%v, %v: %d is not between %d and %d", p, q, price, low, high)
			}
		}
		if rule == 2 && (price < q.Bid || price > q.Ask) {
			t.Errorf("%v, %v: %d is not between bid and ask", p, q, price)
		}
	}
	for rule, n := range seen {
		if rule > 0 && n < 500 {
			t.Errorf("rule %d: only %d quotes", rule, n)
		}
	}
}

// P18.6: a price that was put is found, and all other marks are unchanged.
func TestPutFind(t *testing.T) {
	r := rand.New(rand.NewSource(6))
	for range 200 {
		var l []api.Mark
		want := map[api.Series]int{}
		for range r.Intn(60) {
			m := mark(r.Intn(30), r.Intn(100))
			if r.Intn(3) == 0 {
				m.Series.Kind, m.Series.Strike = api.Call, r.Intn(5)
			}
			var e api.Errno
			l, e = Put(l, m)
			checkError(t, "Put", e, api.OK)
			checkError(t, "CheckAll", CheckAll(l), api.OK)
			want[m.Series] = m.Price
		}
		if len(l) != len(want) {
			t.Errorf("%d marks; want %d", len(l), len(want))
		}
		for s, price := range want {
			if n, ok := Find(l, s); n != price || !ok {
				t.Errorf("%s: %d, %t; want %d", series.Print(s), n, ok, price)
			}
		}
	}
}

func TestExamples(t *testing.T) {
	one := ticks(tick(150, 6, 20))
	checkPrice(t, "two ticks", oil(), quote(), 25, 1)
	checkPrice(t, "one tick, a bid and an ask", oil(), with(one, sides(20, 30)), 25, 2)
	checkPrice(t, "one tick and a bid", oil(), with(one, sides(25, 0)), 25, 3)
	checkPrice(t, "no tick, no bid", oil(), with(ticks(), day(50, -7)), 45, 4)
	checkMid(t, 20, 25, 5, 20, api.OK)
}
