package position

import (
	"fmt"
	"math"
	"math/rand"
	"slices"
	"testing"

	"contango/api"
	"contango/series"
)

// far are ints that are not between -MaxQty and MaxQty.
var far = []int{math.MinInt, math.MinInt + 1, -1 << 32, -api.MaxQty - 1, api.MaxQty + 1, 1 << 32, math.MaxInt}

var kinds = []int{api.AccHouse, api.AccNet, api.AccGross}

// noKinds are ints that are no kinds of accounts.
var noKinds = []int{math.MinInt, -1 << 32, -1, 0, 4, 5, 1 << 32, 1<<32 + 1, math.MaxInt}

// oil returns a series; a greater n makes a greater one.
func oil(n int) api.Series {
	return api.Series{Product: "oil", Kind: api.Future, Expiry: n}
}

// odd returns a series of which nothing is valid, and which is less than all of oil.
func odd() api.Series {
	return api.Series{Product: "?", Kind: -9, Expiry: math.MinInt, Strike: math.MaxInt}
}

// pos returns a position in oil.
func pos(n, long, short int) api.Position {
	return api.Position{Series: oil(n), Long: long, Short: short}
}

// many returns so many valid positions, in oil(0), oil(2), oil(4) and so on.
func many(n int) (l []api.Position) {
	for i := range n {
		l = append(l, pos(2*i, i+1, i%3))
	}
	return l
}

// bought returns a leg of so many lots of oil(n); sold ones if qty is negative.
func bought(n, qty int) api.Leg {
	return api.Leg{Series: oil(n), Qty: qty}
}

// guarded returns a list with memory beyond its end, and a function that reports whether nothing of both has changed.
func guarded(l []api.Position) (given []api.Position, unchanged func() bool) {
	whole := append(slices.Clone(l), pos(901, 902, 903), pos(904, 905, 906))
	before := slices.Clone(whole)
	return whole[:len(l)], func() bool { return slices.Equal(whole, before) }
}

// spoil overwrites a result with all of its memory, so that what shares it with others is found out.
func spoil(l []api.Position) {
	l = l[:cap(l)]
	for i := range l {
		l[i] = pos(-1, -2, -3)
	}
}

func checkError(t *testing.T, what string, e, want api.Errno) {
	t.Helper()
	if e != want {
		t.Errorf("%s: error %d; want %d", what, e, want)
	}
}

func checkList(t *testing.T, what string, l []api.Position, want ...api.Position) {
	t.Helper()
	if !slices.Equal(l, want) {
		t.Errorf("%s: %v; want %v", what, l, want)
	}
}

// checkApply holds what Apply returns, that it leaves its argument as it is, and that it shares no memory with it.
func checkApply(t *testing.T, what string, l []api.Position, kind int, leg api.Leg, closes int, wantError api.Errno, want ...api.Position) {
	t.Helper()
	given, unchanged := guarded(l)
	out, e := Apply(given, kind, leg, closes)
	checkError(t, what, e, wantError)
	checkList(t, what, out, want...)
	spoil(out)
	if !unchanged() {
		t.Errorf("%s: the argument has changed", what)
	}
}

// checkMoved holds that of Move; the two lists of a result share no memory either.
func checkMoved(t *testing.T, what string, from, to []api.Position, kind int, s api.Series, long, short int, wantError api.Errno, wantA, wantB []api.Position) {
	t.Helper()
	x, xUnchanged := guarded(from)
	y, yUnchanged := guarded(to)
	a, b, e := Move(x, y, kind, s, long, short)
	checkError(t, what, e, wantError)
	checkList(t, what+": what is left", a, wantA...)
	checkList(t, what+": what was moved", b, wantB...)
	spoil(a)
	checkList(t, what+": what was moved, again", b, wantB...)
	spoil(b)
	if !xUnchanged() || !yUnchanged() {
		t.Errorf("%s: an argument has changed", what)
	}
}

// P15.1
func TestCheck(t *testing.T) {
	for what, l := range map[string][]api.Position{
		"none":              nil,
		"an empty list":     {},
		"one":               {pos(20, 1, 0)},
		"short alone":       {pos(20, 0, 1)},
		"both sides":        {pos(20, 4, 1)},
		"most lots":         {pos(20, api.MaxQty, api.MaxQty), pos(21, 0, api.MaxQty), pos(22, api.MaxQty, 0)},
		"most series":       many(api.MaxSeries),
		"a series not held": {{Series: odd(), Long: 1}, pos(20, 1, 0)},
		"no series":         {{Long: 1}},
	} {
		checkError(t, what, Check(l), api.OK)
	}
	checkError(t, "one too many", Check(many(api.MaxSeries+1)), api.ErrLong)
	checkError(t, "far too many", Check(many(5000)), api.ErrLong)
	checkError(t, "too many, all wrong", Check(make([]api.Position, api.MaxSeries+1)), api.ErrLong)
}

// P15.1: series ascend as series.Compare orders them.
func TestCheckSeries(t *testing.T) {
	ascending := []api.Series{
		odd(),
		{Product: "gas", Kind: api.Put, Expiry: 90, Strike: 50},
		{Product: "oil", Kind: api.Put, Expiry: 10, Strike: 50},
		{Product: "oil", Kind: api.Future, Expiry: 20},
		{Product: "oil", Kind: api.Call, Expiry: 20, Strike: -50},
		{Product: "oil", Kind: api.Call, Expiry: 20, Strike: 40},
		{Product: "oil", Kind: api.Put, Expiry: 20, Strike: -60},
		{Product: "oila", Kind: api.Future, Expiry: 5},
	}
	for i, a := range ascending {
		for j, b := range ascending {
			want := api.ErrSeries
			if i < j {
				want = api.OK
			}
			what := fmt.Sprintf("%v, %v", a, b)
			checkError(t, what, Check([]api.Position{{Series: a, Long: 1}, {Series: b, Long: 1}}), want)
		}
	}
	checkError(t, "equal to one farther ahead", Check([]api.Position{pos(1, 1, 0), pos(2, 1, 0), pos(1, 1, 0)}), api.ErrSeries)
}

// P15.1: each value of a side, in each place of a list.
func TestCheckLots(t *testing.T) {
	for i := range api.MaxSeries {
		hold := func(long, short int, want api.Errno) {
			t.Helper()
			l := many(api.MaxSeries)
			l[i].Long, l[i].Short = long, short
			checkError(t, fmt.Sprintf("%d long and %d short at %d", long, short, i), Check(l), want)
		}
		for _, n := range append([]int{-1}, far...) {
			hold(n, 0, api.ErrQty)
			hold(0, n, api.ErrQty)
			hold(n, n, api.ErrQty)
			hold(1, n, api.ErrQty)
			hold(n, 1, api.ErrQty)
		}
		hold(0, 0, api.ErrQty)
		hold(0, 1, api.OK)
		hold(1, 0, api.OK)
		hold(api.MaxQty, api.MaxQty, api.OK)
	}
}

// P15.1: position by position, and of one position its series first.
func TestCheckOrder(t *testing.T) {
	checkError(t, "a series and lots", Check([]api.Position{pos(5, 1, 0), pos(5, 0, 0)}), api.ErrSeries)
	checkError(t, "lots, then a series", Check([]api.Position{pos(5, 1, 0), pos(6, -1, 0), pos(1, 1, 0)}), api.ErrQty)
	checkError(t, "the first one's lots", Check([]api.Position{pos(5, 0, 0), pos(5, 1, 0)}), api.ErrQty)
	checkError(t, "a series, then lots", Check([]api.Position{pos(5, 1, 0), pos(4, 1, 0), pos(9, 0, 0)}), api.ErrSeries)
}

// P15.1
func TestFind(t *testing.T) {
	twice := []api.Position{pos(7, -1, 0), pos(3, 9, 9), pos(7, 2, 2), {Series: odd(), Long: math.MinInt, Short: math.MaxInt}, pos(4, 0, 0)}
	for _, want := range []api.Position{twice[0], twice[1], twice[3], twice[4], pos(5, 0, 0), {}} {
		if p := Find(twice, want.Series); p != want {
			t.Errorf("%v: %v; want %v", want.Series, p, want)
		}
	}
	for _, s := range []api.Series{oil(1), odd(), {}} {
		if p := Find(nil, s); p != (api.Position{Series: s}) {
			t.Errorf("%v in no list: %v", s, p)
		}
	}
	for _, s := range []api.Series{{Product: "gas", Kind: api.Future, Expiry: 7}, {Product: "oil", Kind: api.Call, Expiry: 7}, {Product: "oil", Kind: api.Future, Expiry: 7, Strike: 1}} {
		if p := Find(twice, s); p != (api.Position{Series: s}) {
			t.Errorf("%v differs in one field: %v", s, p)
		}
	}
	if l := many(5000); Find(l, oil(9998)) != l[4999] {
		t.Error("the last one of many is not found")
	}
}

// P15.2: Check's errors come first, then that of the kind, then those of the lots.
func TestApplyErrors(t *testing.T) {
	for what, c := range map[string]struct {
		l []api.Position
		e api.Errno
	}{
		"too many": {many(api.MaxSeries + 1), api.ErrLong},
		"series":   {[]api.Position{pos(5, 1, 0), pos(5, 1, 0)}, api.ErrSeries},
		"lots":     {[]api.Position{pos(5, 0, -1)}, api.ErrQty},
	} {
		checkApply(t, what+" and all else", c.l, 0, bought(5, 0), -1, c.e)
		checkApply(t, what, c.l, api.AccNet, bought(5, 1), 0, c.e)
	}
	for _, kind := range noKinds {
		checkApply(t, fmt.Sprint("kind ", kind), many(3), kind, bought(2, 1), 0, api.ErrAccount)
		checkApply(t, fmt.Sprint("kind and lots ", kind), many(3), kind, bought(2, 0), -1, api.ErrAccount)
	}
	for _, kind := range kinds {
		for _, qty := range append([]int{0}, far...) {
			checkApply(t, fmt.Sprint(qty, " lots of kind ", kind), many(3), kind, bought(2, qty), 0, api.ErrQty)
			most := []api.Position{pos(2, api.MaxQty, api.MaxQty)} // on which each side would fit after a leg that sets all of the other one off
			checkApply(t, fmt.Sprint(qty, " lots of kind ", kind, " to most"), most, kind, bought(2, qty), api.MaxQty, api.ErrQty)
			checkApply(t, fmt.Sprint(qty, " lots of kind ", kind, " to most long"), positioned(api.MaxQty, 0), kind, bought(1, qty), 0, api.ErrQty)
			checkApply(t, fmt.Sprint(qty, " lots of kind ", kind, " to most short"), positioned(0, api.MaxQty), kind, bought(1, qty), 0, api.ErrQty)
		}
	}
}

// P15.2: closes, which plays a part in gross accounts alone.
func TestApplyCloses(t *testing.T) {
	l := []api.Position{pos(1, 50, 50)}
	for _, qty := range []int{1, 3, 40} {
		for _, closes := range append([]int{-1, qty + 1, -qty}, far...) {
			what := fmt.Sprint(closes, " of ", qty)
			checkApply(t, what+" bought", l, api.AccGross, bought(1, qty), closes, api.ErrQty)
			checkApply(t, what+" sold", l, api.AccGross, bought(1, -qty), closes, api.ErrQty)
			checkApply(t, what+" bought net", l, api.AccNet, bought(1, qty), closes, api.OK, pos(1, 50, 50-qty))
			checkApply(t, what+" sold net", l, api.AccHouse, bought(1, -qty), closes, api.OK, pos(1, 50-qty, 50))
		}
	}
	checkApply(t, "none of most", l, api.AccGross, bought(2, api.MaxQty), 0, api.OK, l[0], pos(2, api.MaxQty, 0))
	checkApply(t, "none of most sold", l, api.AccGross, bought(2, -api.MaxQty), 0, api.OK, l[0], pos(2, 0, api.MaxQty))
	most := []api.Position{pos(1, api.MaxQty, api.MaxQty)}
	checkApply(t, "all of most", most, api.AccGross, bought(1, api.MaxQty), api.MaxQty, api.OK, pos(1, api.MaxQty, 0))
	checkApply(t, "all of most sold", most, api.AccGross, bought(1, -api.MaxQty), api.MaxQty, api.OK, pos(1, 0, api.MaxQty))
	checkApply(t, "one more than most", most, api.AccGross, bought(1, api.MaxQty), api.MaxQty+1, api.ErrQty)
}

// P15.2: of a leg Series and Qty matter, and nothing else.
func TestApplyLeg(t *testing.T) {
	leg := api.Leg{Acc: api.Acc{Member: " ", Name: "?"}, Series: oil(1), Qty: 2, Price: math.MinInt, Trade: math.MinInt}
	for _, kind := range kinds {
		checkApply(t, "an odd leg", nil, kind, leg, 0, api.OK, pos(1, 2, 0))
		checkApply(t, "an odd series", many(1), kind, api.Leg{Series: odd(), Qty: -1}, 0, api.OK, api.Position{Series: odd(), Short: 1}, many(1)[0])
	}
}

// lotByLot returns what lots, one by one, make of two sides: own is the side that they are on, other the opposite one; the first closes of them reduce the opposite one.
func lotByLot(own, other, lots, closes int) (int, int) {
	for i := range lots {
		if i < closes {
			other--
		} else {
			own++
		}
	}
	return own, other
}

// positioned returns a list of one position, none if it has no lots.
func positioned(long, short int) []api.Position {
	if long == 0 && short == 0 {
		return nil
	}
	return []api.Position{pos(1, long, short)}
}

// P15.3: all small positions and legs.
func TestApplySmall(t *testing.T) {
	for i := range 5 * 5 * 7 {
		long, short, lots := i%5, i/5%5, i/25+1
		what := fmt.Sprintf("%d lots to %d long and %d short", lots, long, short)
		l := positioned(long, short)
		for _, kind := range []int{api.AccHouse, api.AccNet} {
			own, other := lotByLot(long, short, lots, min(lots, short))
			checkApply(t, what+" net", l, kind, bought(1, lots), 0, api.OK, positioned(own, other)...)
			own, other = lotByLot(short, long, lots, min(lots, long))
			checkApply(t, what+" net, sold", l, kind, bought(1, -lots), 0, api.OK, positioned(other, own)...)
		}
		for closes := range lots + 1 {
			what := fmt.Sprint(what, " that close ", closes)
			if closes > short {
				checkApply(t, what, l, api.AccGross, bought(1, lots), closes, api.ErrOpen)
			} else {
				own, other := lotByLot(long, short, lots, closes)
				checkApply(t, what, l, api.AccGross, bought(1, lots), closes, api.OK, positioned(own, other)...)
			}
			if closes > long {
				checkApply(t, what+", sold", l, api.AccGross, bought(1, -lots), closes, api.ErrOpen)
			} else {
				own, other := lotByLot(short, long, lots, closes)
				checkApply(t, what+", sold", l, api.AccGross, bought(1, -lots), closes, api.OK, positioned(other, own)...)
			}
		}
	}
}

// P15.3: a side has at most MaxQty lots.
func TestApplyMost(t *testing.T) {
	const most = api.MaxQty
	for _, c := range []struct {
		long, short, qty, closes, kind int
		e                              api.Errno
		want                           []api.Position
	}{
		{most - 1, 0, 1, 0, api.AccNet, api.OK, positioned(most, 0)},
		{most, 0, 1, 0, api.AccNet, api.ErrQty, nil},
		{0, most, -1, 0, api.AccHouse, api.ErrQty, nil},
		{1, 0, most, 0, api.AccHouse, api.ErrQty, nil},
		{most, most, most, 0, api.AccNet, api.OK, positioned(most, 0)},
		{most, most, -most, 0, api.AccNet, api.OK, positioned(0, most)},
		{most, most - 1, most, 0, api.AccNet, api.ErrQty, nil},
		{most - 1, most, -most, 0, api.AccNet, api.ErrQty, nil},
		{0, most, most, 0, api.AccNet, api.OK, nil},
		{most, 5, 5, 5, api.AccGross, api.OK, positioned(most, 0)},
		{most, 5, 5, 4, api.AccGross, api.ErrQty, nil},
		{5, most, -5, 5, api.AccGross, api.OK, positioned(0, most)},
		{5, most, -5, 4, api.AccGross, api.ErrQty, nil},
		{most, most, 1, 0, api.AccGross, api.ErrQty, nil},
		{most, 5, 7, 6, api.AccGross, api.ErrOpen, nil}, // named ahead of the side that would be too great
		{5, most, -7, 6, api.AccGross, api.ErrOpen, nil},
	} {
		what := fmt.Sprintf("%d closing %d to %d long and %d short, kind %d", c.qty, c.closes, c.long, c.short, c.kind)
		checkApply(t, what, positioned(c.long, c.short), c.kind, bought(1, c.qty), c.closes, c.e, c.want...)
	}
}

// P15.3: a position is inserted at its place, and removed when it has no lots.
func TestApplyPlace(t *testing.T) {
	for _, kind := range kinds {
		for i := range 6 {
			l := many(5)
			checkApply(t, fmt.Sprint("ahead of ", i), l, kind, bought(2*i-1, 3), 0, api.OK, slices.Insert(slices.Clone(l), i, pos(2*i-1, 3, 0))...)
		}
		for i := range 5 {
			l := many(5)
			l[i].Long, l[i].Short = 0, 4
			closes := 4
			checkApply(t, fmt.Sprint("away from ", i), l, kind, bought(2*i, 4), closes, api.OK, slices.Delete(slices.Clone(l), i, i+1)...)
			l[i].Long, l[i].Short = 4, 0
			checkApply(t, fmt.Sprint("sold away from ", i), l, kind, bought(2*i, -4), closes, api.OK, slices.Delete(slices.Clone(l), i, i+1)...)
		}
		checkApply(t, "the only one", positioned(2, 0), kind, bought(1, -2), 2, api.OK)
	}
}

// P15.3: there are at most MaxSeries positions.
func TestApplyFull(t *testing.T) {
	full := many(api.MaxSeries)
	for _, kind := range kinds {
		for _, n := range []int{-1, 1, 77, 2*api.MaxSeries - 1} {
			checkApply(t, fmt.Sprint("one more at ", n), full, kind, bought(n, 1), 0, api.ErrLong)
			checkApply(t, fmt.Sprint("one more sold at ", n), full, kind, bought(n, -1), 0, api.ErrLong)
		}
		same := slices.Clone(full)
		same[9].Long++
		checkApply(t, "more of one that is there", full, kind, bought(18, 1), 0, api.OK, same...)
		checkApply(t, "the last one that fits", full[1:], kind, bought(0, 1), 0, api.OK, full...)
		checkApply(t, "one less", full, kind, bought(0, -1), 1, api.OK, full[1:]...)
	}
	checkApply(t, "one more that closes", full, api.AccGross, bought(1, 1), 1, api.ErrOpen)
}

// P15.4: with wrap-around.
func TestNet(t *testing.T) {
	for _, c := range []struct{ long, short, want int }{
		{0, 0, 0}, {4, 1, 3}, {1, 4, -3}, {api.MaxQty, 0, api.MaxQty}, {0, api.MaxQty, -api.MaxQty}, {-5, -7, 2},
		{math.MaxInt, -1, math.MinInt}, {math.MinInt, 1, math.MaxInt}, {0, math.MinInt, math.MinInt}, {math.MaxInt, math.MinInt, -1}, {math.MinInt, math.MinInt, 0},
	} {
		if n := Net(api.Position{Series: odd(), Long: c.long, Short: c.short}); n != c.want {
			t.Errorf("%d long, %d short: %d; want %d", c.long, c.short, n, c.want)
		}
	}
}

// P15.4
func TestNetted(t *testing.T) {
	for what, c := range map[string]struct{ l, want []api.Position }{
		"none":                 {nil, nil},
		"an empty list":        {[]api.Position{}, nil},
		"both sides":           {[]api.Position{pos(1, 4, 1)}, []api.Position{pos(1, 3, 0)}},
		"more short":           {[]api.Position{pos(1, 4, 9)}, []api.Position{pos(1, 0, 5)}},
		"one side":             {[]api.Position{pos(1, 4, 0), pos(2, 0, 4)}, []api.Position{pos(1, 4, 0), pos(2, 0, 4)}},
		"as many of both":      {[]api.Position{pos(1, 2, 2), pos(2, 1, 2), pos(3, 3, 3)}, []api.Position{pos(2, 0, 1)}},
		"without lots":         {[]api.Position{pos(1, 0, 0), pos(2, 1, 0), pos(3, 0, 0)}, []api.Position{pos(2, 1, 0)}},
		"below 0":              {[]api.Position{pos(1, -4, -1), pos(2, -4, 1), pos(3, 4, -1), pos(4, -3, -3), pos(5, 0, -2), pos(6, -2, 0)}, []api.Position{pos(1, -4, -1), pos(2, -4, 1), pos(3, 4, -1), pos(4, -3, -3), pos(5, 0, -2), pos(6, -2, 0)}},
		"one series twice":     {[]api.Position{pos(1, 4, 1), pos(1, 1, 4), pos(1, 1, 1), pos(1, 3, 0)}, []api.Position{pos(1, 3, 0), pos(1, 0, 3), pos(1, 3, 0)}},
		"in no order":          {[]api.Position{pos(9, 4, 1), {Series: odd(), Long: 2, Short: 3}, pos(5, 1, 0)}, []api.Position{pos(9, 3, 0), {Series: odd(), Short: 1}, pos(5, 1, 0)}},
		"the ends of int":      {[]api.Position{pos(1, math.MaxInt, 1), pos(2, math.MaxInt, math.MaxInt), pos(3, 2, math.MaxInt), pos(4, math.MinInt, math.MaxInt)}, []api.Position{pos(1, math.MaxInt-1, 0), pos(3, 0, math.MaxInt-2), pos(4, math.MinInt, math.MaxInt)}},
		"more than a list may": {slices.Repeat([]api.Position{pos(1, 3, 2)}, 3000), slices.Repeat([]api.Position{pos(1, 1, 0)}, 3000)},
	} {
		given, unchanged := guarded(c.l)
		out := Netted(given)
		checkList(t, what, out, c.want...)
		spoil(out)
		if !unchanged() {
			t.Errorf("%s: the argument has changed", what)
		}
	}
}

// P15.5: of all combinations of faults the first one's error is returned.
func TestMoveErrors(t *testing.T) {
	type call struct {
		from, to          []api.Position
		kind, long, short int
	}
	faults := []struct {
		lay func(c *call)
		e   api.Errno
	}{
		{func(c *call) { c.from = many(api.MaxSeries + 1) }, api.ErrLong},
		{func(c *call) { c.from = []api.Position{pos(9, 1, 0), pos(1, 1, 0)} }, api.ErrSeries},
		{func(c *call) { c.from = []api.Position{pos(1, 0, 0)} }, api.ErrQty},
		{func(c *call) { c.to = many(api.MaxSeries + 1) }, api.ErrLong},
		{func(c *call) { c.to = []api.Position{pos(9, 1, 0), pos(1, 1, 0)} }, api.ErrSeries},
		{func(c *call) { c.to = []api.Position{pos(1, 0, -1)} }, api.ErrQty},
		{func(c *call) { c.kind = 4 }, api.ErrAccount},
		{func(c *call) { c.long, c.short = -1, 0 }, api.ErrQty},
		{func(c *call) { c.long, c.short = 4, 0 }, api.ErrOpen},
		{func(c *call) { c.to = []api.Position{pos(1, api.MaxQty, 0)} }, api.ErrQty},
	}
	for set := 1; set < 1<<len(faults); set++ {
		c, want := call{from: []api.Position{pos(1, 3, 3)}, to: many(2), kind: api.AccGross, long: 1, short: 1}, api.OK
		for i := len(faults) - 1; i >= 0; i-- { // the first fault is laid last, over a later one of the same argument
			if set>>i&1 == 1 {
				faults[i].lay(&c)
				want = faults[i].e
			}
		}
		a, b, e := Move(c.from, c.to, c.kind, oil(1), c.long, c.short)
		checkError(t, fmt.Sprintf("faults %010b", set), e, want)
		checkList(t, fmt.Sprintf("faults %010b: what is left", set), a)
		checkList(t, fmt.Sprintf("faults %010b: what was moved", set), b)
	}
}

// P15.5
func TestMoveLots(t *testing.T) {
	from := []api.Position{pos(1, api.MaxQty, api.MaxQty)}
	fails := func(long, short int, want api.Errno) {
		t.Helper()
		for _, kind := range kinds {
			checkMoved(t, fmt.Sprint(long, " long, ", short, " short"), from, nil, kind, oil(1), long, short, want, nil, nil)
		}
	}
	fails(0, 0, api.ErrQty)
	for _, n := range append([]int{-1}, far...) {
		fails(n, 0, api.ErrQty)
		fails(0, n, api.ErrQty)
		fails(n, 1, api.ErrQty)
		fails(1, n, api.ErrQty)
		fails(n, n, api.ErrQty)
	}
	for _, kind := range noKinds {
		checkMoved(t, fmt.Sprint("kind ", kind), from, nil, kind, oil(1), 1, 0, api.ErrAccount, nil, nil)
	}
	const most = api.MaxQty
	checkMoved(t, "most", from, nil, api.AccGross, oil(1), most, most, api.OK, nil, from)
	checkMoved(t, "most long", from, nil, api.AccGross, oil(1), most, 0, api.OK, []api.Position{pos(1, 0, most)}, []api.Position{pos(1, most, 0)})
	checkMoved(t, "most net", from, nil, api.AccNet, oil(1), most, most, api.OK, nil, nil)
}

// P15.5: from must have the lots.
func TestMoveOpen(t *testing.T) {
	from, to := []api.Position{pos(1, 3, 1), pos(2, 50, 50)}, []api.Position{pos(1, 20, 20)}
	for _, kind := range kinds {
		for _, c := range [][2]int{{4, 0}, {4, 1}, {0, 2}, {3, 2}, {api.MaxQty, 0}, {0, api.MaxQty}, {4, 2}} {
			checkMoved(t, fmt.Sprint("more than there are: ", c), from, to, kind, oil(1), c[0], c[1], api.ErrOpen, nil, nil)
		}
		checkMoved(t, "of none", from, to, kind, oil(3), 1, 0, api.ErrOpen, nil, nil)
		checkMoved(t, "of a series of the other one", nil, to, kind, oil(1), 0, 1, api.ErrOpen, nil, nil)
	}
}

// P15.5: the legs are applied one by one, the bought lots first, and close nothing in a gross account.
func TestMoveResult(t *testing.T) {
	const most = api.MaxQty
	from := []api.Position{pos(0, 1, 0), pos(1, 3, 2), pos(2, 0, 1)}
	left := func(p ...api.Position) []api.Position { return append(append([]api.Position{from[0]}, p...), from[2]) }
	for _, c := range []struct {
		kind            int
		to              []api.Position
		long, short     int
		e               api.Errno
		toLong, toShort int
	}{
		{api.AccNet, positioned(0, 2), 2, 0, api.OK, 0, 0},
		{api.AccNet, positioned(0, 2), 3, 0, api.OK, 1, 0},
		{api.AccNet, positioned(0, 2), 2, 1, api.OK, 0, 1},
		{api.AccHouse, positioned(0, 0), 3, 2, api.OK, 1, 0},
		{api.AccHouse, positioned(5, 0), 0, 2, api.OK, 3, 0},
		{api.AccNet, positioned(0, 0), 2, 2, api.OK, 0, 0},
		{api.AccNet, positioned(4, 1), 2, 2, api.OK, 3, 0},
		{api.AccGross, positioned(0, 2), 2, 0, api.OK, 2, 2},
		{api.AccGross, positioned(4, 1), 3, 2, api.OK, 7, 3},
		{api.AccGross, positioned(0, 0), 0, 2, api.OK, 0, 2},
		{api.AccNet, positioned(most, 0), 1, 2, api.ErrQty, 0, 0}, // as the bought ones come first
		{api.AccNet, positioned(most-1, 0), 1, 2, api.OK, most - 2, 0},
		{api.AccNet, positioned(most, 0), 0, 2, api.OK, most - 2, 0},
		{api.AccNet, positioned(0, most), 1, 2, api.ErrQty, 0, 0},
		{api.AccNet, positioned(0, most), 2, 2, api.OK, 0, most}, // likewise
		{api.AccGross, positioned(most, 1), 1, 0, api.ErrQty, 0, 0},
		{api.AccGross, positioned(1, most-1), 1, 2, api.ErrQty, 0, 0},
		{api.AccGross, positioned(most-3, most-2), 3, 2, api.OK, most, most},
	} {
		wantA, wantB := left(pos(1, 3-c.long, 2-c.short)), positioned(c.toLong, c.toShort)
		if c.long == 3 && c.short == 2 {
			wantA = left()
		}
		if c.e != api.OK {
			wantA, wantB = nil, nil
		}
		checkMoved(t, fmt.Sprintf("%d and %d to %v, kind %d", c.long, c.short, c.to, c.kind), from, c.to, c.kind, oil(1), c.long, c.short, c.e, wantA, wantB)
	}
}

// P15.5: other positions remain, and what is moved stands at its place.
func TestMovePlace(t *testing.T) {
	from := []api.Position{pos(5, 2, 2)}
	full := many(api.MaxSeries)
	for _, kind := range []int{api.AccHouse, api.AccGross} {
		checkMoved(t, "to a full list", from, full, kind, oil(5), 1, 0, api.ErrLong, nil, nil)
		checkMoved(t, "short to a full list", from, full, kind, oil(5), 0, 1, api.ErrLong, nil, nil)
		checkMoved(t, "between others", from, many(5), kind, oil(5), 2, 0, api.OK, []api.Position{pos(5, 0, 2)}, slices.Insert(many(5), 3, pos(5, 2, 0)))
		checkMoved(t, "from a full list", full, nil, kind, oil(0), 1, 0, api.OK, full[1:], []api.Position{pos(0, 1, 0)})
	}
	one := api.Position{Series: odd(), Long: 1}
	checkMoved(t, "an odd series", []api.Position{one}, many(1), api.AccNet, odd(), 1, 0, api.OK, nil, []api.Position{one, many(1)[0]})
}

// P15.5: one list may be both arguments.
func TestMoveToItself(t *testing.T) {
	l, unchanged := guarded([]api.Position{pos(1, 4, 2)})
	a, b, e := Move(l, l, api.AccGross, oil(1), 1, 2)
	checkError(t, "to itself", e, api.OK)
	checkList(t, "what is left", a, pos(1, 3, 0))
	checkList(t, "what was moved", b, pos(1, 5, 4))
	if !unchanged() {
		t.Error("the argument has changed")
	}
}

// P15.6
func TestLots(t *testing.T) {
	const most = api.MaxQty
	for what, c := range map[string]struct {
		l    []api.Position
		want int
	}{
		"none":                   {nil, 0},
		"both sides":             {[]api.Position{pos(1, 3, 1), pos(2, 0, 5)}, 9},
		"twice and in no order":  {[]api.Position{pos(2, 3, 1), pos(1, 1, 0), pos(2, 3, 1)}, 9},
		"most":                   {[]api.Position{pos(1, most, most)}, 2 * most},
		"too many on a side":     {[]api.Position{pos(1, most+1, 1), pos(2, 2, most+1)}, 3},
		"below 0":                {[]api.Position{pos(1, -1, 1), pos(2, 2, -1), pos(3, -1, -1)}, 3},
		"the ends of int":        {[]api.Position{pos(1, math.MinInt, math.MaxInt), pos(2, math.MaxInt, 7), pos(3, 1, math.MinInt)}, 8},
		"as many as count":       {slices.Repeat([]api.Position{pos(1, most, most)}, api.MaxList), 2 * most * api.MaxList},
		"one more than count":    {append(slices.Repeat([]api.Position{pos(1, 1, 0)}, api.MaxList), pos(2, 5, 5)), api.MaxList},
		"many more than count":   {slices.Repeat([]api.Position{pos(1, 1, 1)}, 5*api.MaxList), 2 * api.MaxList},
		"ones that do not count": {append(slices.Repeat([]api.Position{pos(1, -1, -1)}, api.MaxList), pos(2, 5, 5)), 0},
	} {
		if n := Lots(c.l); n != c.want {
			t.Errorf("%s: %d; want %d", what, n, c.want)
		}
	}
}

// P15.6
func TestDrop(t *testing.T) {
	twice := []api.Position{pos(7, -1, 0), pos(3, 9, 9), pos(7, 2, 2), {Series: odd(), Long: math.MinInt}, pos(4, 0, 0)}
	without := func(i int) []api.Position { return slices.Delete(slices.Clone(twice), i, i+1) }
	for _, c := range []struct {
		l    []api.Position
		s    api.Series
		want []api.Position
		p    api.Position
	}{
		{nil, oil(1), nil, pos(1, 0, 0)},
		{twice, oil(7), without(0), twice[0]},
		{twice, oil(3), without(1), twice[1]},
		{twice, odd(), without(3), twice[3]},
		{twice, oil(4), without(4), twice[4]},
		{twice, oil(5), twice, pos(5, 0, 0)},
		{twice, api.Series{}, twice, api.Position{}},
		{many(1), oil(0), nil, many(1)[0]},
		{many(5000), oil(9998), many(4999), many(5000)[4999]},
	} {
		given, unchanged := guarded(c.l)
		out, p := Drop(given, c.s)
		checkList(t, fmt.Sprint("without ", c.s), out, c.want...)
		if p != c.p {
			t.Errorf("%v: dropped %v; want %v", c.s, p, c.p)
		}
		spoil(out)
		if !unchanged() {
			t.Errorf("%v: the argument has changed", c.s)
		}
	}
}

// randomPositions returns a valid list of positions in oil(0) to oil(5).
func randomPositions(r *rand.Rand) (l []api.Position) {
	for i := range 6 {
		if p := pos(i, r.Intn(6), r.Intn(6)); r.Intn(2) == 0 && p != pos(i, 0, 0) {
			l = append(l, p)
		}
	}
	return l
}

// nets returns the Net of each series of oil(0) to oil(5).
func nets(l []api.Position) (n [6]int) {
	for i := range n {
		n[i] = Net(Find(l, oil(i)))
	}
	return n
}

// applied returns the positions after all legs, and whether none was rejected.
func applied(l []api.Position, kind int, legs []api.Leg) (out []api.Position, ok bool) {
	for _, leg := range legs {
		next, e := Apply(l, kind, leg, 0)
		if e != api.OK {
			return nil, false
		}
		l = next
	}
	return l, true
}

// P15.7: the order of legs plays no part in a net account, and Net is the sum of all of them.
func TestOrderOfLegs(t *testing.T) {
	r := rand.New(rand.NewSource(1))
	for range 2000 {
		kind := kinds[r.Intn(2)]
		l := randomPositions(r)
		want := nets(l)
		var legs []api.Leg
		for range r.Intn(12) {
			leg := bought(r.Intn(6), 1+r.Intn(8))
			if r.Intn(2) == 0 {
				leg.Qty = -leg.Qty
			}
			legs = append(legs, leg)
			want[leg.Series.Expiry] += leg.Qty
		}
		first, ok := applied(l, kind, legs)
		if !ok || nets(first) != want || Check(first) != api.OK {
			t.Fatalf("%v after %v: %v", l, legs, first)
		}
		r.Shuffle(len(legs), func(i, j int) { legs[i], legs[j] = legs[j], legs[i] })
		if second, ok := applied(l, kind, legs); !ok || !slices.Equal(first, second) {
			t.Fatalf("%v after %v: %v in another order; want %v", l, legs, second, first)
		}
	}
}

// P15.7: a leg followed by its negation leaves Net unchanged.
func TestLegAndItsNegation(t *testing.T) {
	r := rand.New(rand.NewSource(2))
	for range 2000 {
		l, leg, kind := randomPositions(r), bought(r.Intn(6), 1+r.Intn(8)), kinds[r.Intn(3)]
		back := bought(leg.Series.Expiry, -leg.Qty)
		if r.Intn(2) == 0 {
			leg, back = back, leg
		}
		if out, ok := applied(l, kind, []api.Leg{leg, back}); !ok || nets(out) != nets(l) {
			t.Fatalf("%v after %v and back: %v", l, leg, out)
		}
	}
}

// P15.8: moved lots are not lost.
func TestMovedLotsAreNotLost(t *testing.T) {
	r := rand.New(rand.NewSource(3))
	for range 4000 {
		from, to, kind := randomPositions(r), randomPositions(r), kinds[r.Intn(3)]
		s := oil(r.Intn(6))
		long, short := r.Intn(6), r.Intn(6)
		p := Find(from, s)
		a, b, e := Move(from, to, kind, s, long, short)
		switch {
		case long+short == 0:
			checkError(t, "no lots", e, api.ErrQty)
			continue
		case p.Long < long || p.Short < short:
			checkError(t, "too many lots", e, api.ErrOpen)
			continue
		}
		if e != api.OK || Check(a) != api.OK || Check(b) != api.OK {
			t.Fatalf("%v and %v: %v and %v, error %d", from, to, a, b, e)
		}
		for i := range 6 {
			x, y, z, w := Find(from, oil(i)), Find(to, oil(i)), Find(a, oil(i)), Find(b, oil(i))
			if Net(x)+Net(y) != Net(z)+Net(w) {
				t.Fatalf("%v and %v: %v and %v", from, to, a, b)
			}
			if kind == api.AccGross && (x.Long+y.Long != z.Long+w.Long || x.Short+y.Short != z.Short+w.Short) {
				t.Fatalf("gross %v and %v: %v and %v", from, to, a, b)
			}
			if oil(i) != s && (x != z || y != w) {
				t.Fatalf("%v and %v: %v and %v, where %v was moved", from, to, a, b, s)
			}
		}
	}
}

// The examples of the chapter.
func TestExamples(t *testing.T) {
	two := []api.Position{pos(1, 0, 2)}
	checkApply(t, "example 1, house", two, api.AccHouse, bought(1, 5), 0, api.OK, pos(1, 3, 0))
	checkApply(t, "example 1, gross", two, api.AccGross, bought(1, 5), 1, api.OK, pos(1, 4, 1))
	checkApply(t, "example 1, too many", two, api.AccGross, bought(1, 5), 3, api.ErrOpen)
	checkList(t, "example 2", Netted([]api.Position{pos(1, 4, 1)}), pos(1, 3, 0))
	checkMoved(t, "example 3", []api.Position{pos(1, 2, 0)}, two, api.AccNet, oil(1), 2, 0, api.OK, nil, nil)
}

// Positions are sorted as the series are, whatever the map that holds them does.
func TestOrderOfResult(t *testing.T) {
	var l []api.Position
	for _, s := range []api.Series{
		{Product: "oil", Kind: api.Put, Expiry: 20, Strike: -5}, {Product: "oil", Kind: api.Call, Expiry: 20, Strike: 9}, {Product: "gas", Kind: api.Put, Expiry: 30, Strike: 1},
		{Product: "oil", Kind: api.Call, Expiry: 20, Strike: -9}, {Product: "oil", Kind: api.Put, Expiry: 10}, {Product: "oil", Kind: api.Future, Expiry: 20}, odd(),
	} {
		out, e := Apply(l, api.AccNet, api.Leg{Series: s, Qty: 1}, 0)
		checkError(t, "another series", e, api.OK)
		sorted := slices.IsSortedFunc(out, func(a, b api.Position) int { return series.Compare(a.Series, b.Series) })
		if len(out) != len(l)+1 || !sorted {
			t.Errorf("%v and %v: %v", l, s, out)
		}
		l = out
	}
}
