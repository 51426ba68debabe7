package tape

import (
	"fmt"
	"math"
	"math/big"
	"math/rand"
	"slices"
	"testing"

	"contango/api"
)

// far are ints that no limit of a tick admits.
var far = []int{math.MinInt, math.MinInt + 1, -1 << 32, -api.MaxPrice - 1, api.MaxPrice + 1, 1 << 32, 1<<32 + 1, math.MaxInt}

var modes = []int{api.Down, api.Up, api.Floor, api.Ceil, api.Half}

// noModes are ints that are no rounding modes.
var noModes = []int{math.MinInt, -1 << 32, -1, 0, 6, 7, 1 << 32, 1<<32 + 1, math.MaxInt}

// noSteps are ints that are not between 1 and MaxPrice.
var noSteps = append([]int{-1, 0, -5}, far...)

func tick(time, qty, price int) api.Tick {
	return api.Tick{Time: time, Qty: qty, Price: price}
}

// example is the tape of the chapter's examples.
func example() []api.Tick {
	return []api.Tick{tick(9, 2, 10), tick(10, 1, 13)}
}

// many returns so many valid ticks, each with its own price; three follow each other in one second.
func many(n int) (l []api.Tick) {
	for i := range n {
		l = append(l, tick(i/3, i%7+1, i-500))
	}
	return l
}

// random returns so many valid ticks in the first seconds of a day.
func random(r *rand.Rand, n, seconds int) (l []api.Tick) {
	for range n {
		l = append(l, tick(r.Intn(seconds), 1+r.Intn(5), r.Intn(101)-50))
	}
	slices.SortStableFunc(l, func(a, b api.Tick) int { return a.Time - b.Time })
	return l
}

// guarded returns a list with memory beyond its end, and a function that reports whether nothing of both has changed.
func guarded(l []api.Tick) (given []api.Tick, unchanged func() bool) {
	whole := append(slices.Clone(l), tick(901, 902, 903), tick(904, 905, 906))
	before := slices.Clone(whole)
	return whole[:len(l)], func() bool { return slices.Equal(whole, before) }
}

// spoil overwrites a result with all of its memory, so that what shares it with others is found out.
func spoil(l []api.Tick) {
	l = l[:cap(l)]
	for i := range l {
		l[i] = tick(-1, -2, -3)
	}
}

func checkError(t *testing.T, what string, e, want api.Errno) {
	t.Helper()
	if e != want {
		t.Errorf("%s: error %d; want %d", what, e, want)
	}
}

func checkNumber(t *testing.T, what string, n int, e api.Errno, want int, wantError api.Errno) {
	t.Helper()
	if n != want || e != wantError {
		t.Errorf("%s: %d, error %d; want %d, error %d", what, n, e, want, wantError)
	}
}

func checkList(t *testing.T, what string, l []api.Tick, want ...api.Tick) {
	t.Helper()
	if !slices.Equal(l, want) {
		t.Errorf("%s: %v; want %v", what, l, want)
	}
}

// checkMerge holds what Merge returns, that it leaves its arguments as they are, and that it shares no memory with them.
func checkMerge(t *testing.T, what string, a, b []api.Tick, wantError api.Errno, want ...api.Tick) {
	t.Helper()
	x, xUnchanged := guarded(a)
	y, yUnchanged := guarded(b)
	out, e := Merge(x, y)
	checkError(t, what, e, wantError)
	checkList(t, what, out, want...)
	spoil(out)
	if !xUnchanged() || !yUnchanged() {
		t.Errorf("%s: an argument has changed", what)
	}
}

// invalid are tapes with the error that Check returns for them; of the errors that apply it is the one that the chapter names first.
func invalid() map[string]struct {
	l []api.Tick
	e api.Errno
} {
	return map[string]struct {
		l []api.Tick
		e api.Errno
	}{
		"one too many":              {many(api.MaxList + 1), api.ErrLong},
		"far too many":              {many(5000), api.ErrLong},
		"too many, all wrong":       {make([]api.Tick, api.MaxList+1), api.ErrLong},
		"before the day":            {[]api.Tick{tick(-1, 1, 1)}, api.ErrArg},
		"after the day":             {[]api.Tick{tick(86400, 1, 1)}, api.ErrArg},
		"back in time":              {[]api.Tick{tick(5, 1, 1), tick(4, 1, 1)}, api.ErrArg},
		"back to an earlier time":   {[]api.Tick{tick(3, 1, 1), tick(5, 1, 1), tick(3, 1, 1)}, api.ErrArg},
		"no lots":                   {[]api.Tick{tick(5, 0, 1)}, api.ErrQty},
		"sold lots":                 {[]api.Tick{tick(5, -1, 1)}, api.ErrQty},
		"too many lots":             {[]api.Tick{tick(5, api.MaxQty+1, 1)}, api.ErrQty},
		"too high":                  {[]api.Tick{tick(5, 1, api.MaxPrice+1)}, api.ErrPrice},
		"too low":                   {[]api.Tick{tick(5, 1, -api.MaxPrice-1)}, api.ErrPrice},
		"all of a tick":             {[]api.Tick{tick(-1, 0, math.MinInt)}, api.ErrArg},
		"lots and price":            {[]api.Tick{tick(5, 0, math.MinInt)}, api.ErrQty},
		"time and price":            {[]api.Tick{tick(5, 1, 1), tick(4, 1, math.MaxInt)}, api.ErrArg},
		"a price, then a time":      {[]api.Tick{tick(5, 1, math.MaxInt), tick(4, 1, 1)}, api.ErrPrice},
		"lots, then a price":        {[]api.Tick{tick(5, 0, 1), tick(5, 1, math.MaxInt)}, api.ErrQty},
		"a price, then lots":        {[]api.Tick{tick(5, 1, math.MaxInt), tick(5, 0, 1)}, api.ErrPrice},
		"a time, then lots":         {[]api.Tick{tick(86400, 1, 1), tick(5, 0, 1)}, api.ErrArg},
		"the last of many":          {append(many(api.MaxList-1), tick(86399, 1, math.MaxInt)), api.ErrPrice},
		"behind the least one only": {[]api.Tick{tick(9, 1, 1), tick(2, 1, 1), tick(3, 1, 1)}, api.ErrArg},
	}
}

// P17.1
func TestCheck(t *testing.T) {
	for what, l := range map[string][]api.Tick{
		"none":            nil,
		"an empty list":   {},
		"the example":     example(),
		"the first one":   {tick(0, 1, 0)},
		"the last second": {tick(86399, 1, 0)},
		"a whole day":     {tick(0, 1, 0), tick(86399, 1, 0)},
		"one second":      {tick(7, 3, 2), tick(7, 1, 1), tick(7, 2, 3)},
		"the bounds":      {tick(1, 1, -api.MaxPrice), tick(1, api.MaxQty, api.MaxPrice)},
		"as many as may":  many(api.MaxList),
	} {
		given, unchanged := guarded(l)
		checkError(t, what, Check(given), api.OK)
		if !unchanged() {
			t.Errorf("%s: the argument has changed", what)
		}
	}
	for what, c := range invalid() {
		checkError(t, what, Check(c.l), c.e)
	}
}

// P17.1: each field, in each place of a tape.
func TestCheckFields(t *testing.T) {
	for i := range 40 {
		hold := func(what string, n int, want api.Errno, spoil func(t *api.Tick)) {
			t.Helper()
			l := many(40)
			spoil(&l[i])
			checkError(t, fmt.Sprintf("%s %d at %d", what, n, i), Check(l), want)
		}
		for _, n := range far {
			hold("time", n, api.ErrArg, func(t *api.Tick) { t.Time = n })
			hold("lots", n, api.ErrQty, func(t *api.Tick) { t.Qty = n })
			hold("price", n, api.ErrPrice, func(t *api.Tick) { t.Price = n })
		}
		for _, n := range []int{-1, 0, api.MaxQty + 1} {
			hold("lots", n, api.ErrQty, func(t *api.Tick) { t.Qty = n })
		}
		previous := (i - 1) / 3 // the time of the tick before, or 0
		for _, n := range []int{-1, 86400, previous - 1} {
			hold("time", n, api.ErrArg, func(t *api.Tick) { t.Time = n })
		}
		hold("time", previous, api.OK, func(t *api.Tick) { t.Time = previous })
		for _, n := range []int{1, api.MaxQty} {
			hold("lots", n, api.OK, func(t *api.Tick) { t.Qty = n })
		}
		for _, n := range []int{-api.MaxPrice, -1, 0, 1, api.MaxPrice} {
			hold("price", n, api.OK, func(t *api.Tick) { t.Price = n })
		}
	}
}

// P17.1: all functions that return an error return that of Check first.
func TestErrorOfCheckFirst(t *testing.T) {
	for what, c := range invalid() {
		n, e := Volume(c.l)
		checkNumber(t, what+": Volume", n, e, 0, c.e)
		for _, step := range []int{0, 1} {
			for _, mode := range []int{0, api.Half} {
				n, e = Vwap(c.l, step, mode)
				checkNumber(t, what+": Vwap", n, e, 0, c.e)
			}
		}
		checkMerge(t, what+": Merge", c.l, example(), c.e)
		checkMerge(t, what+": Merge, as the second one", example(), c.l, c.e)
		checkMerge(t, what+": Merge, of too many", many(api.MaxList), c.l, c.e)
		for other, d := range invalid() {
			checkMerge(t, what+", "+other+": Merge", c.l, d.l, c.e)
		}
	}
}

// P17.2
func TestWindow(t *testing.T) {
	odd := []api.Tick{tick(10, 1, 1), tick(-5, 0, math.MinInt), tick(20, -3, 9), tick(15, 2, 2), tick(math.MaxInt, 1, 3), tick(10, 7, 7), tick(math.MinInt, 1, 4)}
	for _, c := range []struct {
		from, to int
		want     []api.Tick
	}{
		{10, 20, []api.Tick{odd[0], odd[2], odd[3], odd[5]}},
		{10, 10, []api.Tick{odd[0], odd[5]}},
		{11, 19, []api.Tick{odd[3]}},
		{11, 14, nil},
		{20, 10, nil},
		{-5, 9, []api.Tick{odd[1]}},
		{21, math.MaxInt, []api.Tick{odd[4]}},
		{math.MinInt, -6, []api.Tick{odd[6]}},
		{math.MinInt, math.MaxInt, odd},
		{math.MaxInt, math.MinInt, nil},
	} {
		given, unchanged := guarded(odd)
		out := Window(given, c.from, c.to)
		checkList(t, fmt.Sprintf("from %d to %d", c.from, c.to), out, c.want...)
		spoil(out)
		if !unchanged() {
			t.Errorf("from %d to %d: the argument has changed", c.from, c.to)
		}
	}
	checkList(t, "of none", Window(nil, 0, 86399))
	long := many(5000)
	checkList(t, "of more than MaxList", Window(long, 0, 86399), long...)
}

// P17.3
func TestVolume(t *testing.T) {
	most := make([]api.Tick, api.MaxList)
	for i := range most {
		most[i] = tick(i, api.MaxQty, api.MaxPrice)
	}
	for what, c := range map[string]struct {
		l    []api.Tick
		want int
	}{
		"none":         {nil, 0},
		"an empty one": {[]api.Tick{}, 0},
		"the example":  {example(), 3},
		"one":          {[]api.Tick{tick(3, 8, -1)}, 8},
		"the most":     {most, api.MaxList * api.MaxQty},
	} {
		given, unchanged := guarded(c.l)
		n, e := Volume(given)
		checkNumber(t, what, n, e, c.want, api.OK)
		if !unchanged() {
			t.Errorf("%s: the argument has changed", what)
		}
	}
}

// P17.4
func TestVwap(t *testing.T) {
	for _, c := range []struct {
		l    []api.Tick
		step int
		want [5]int // by mode: Down, Up, Floor, Ceil, Half
	}{
		{example(), 1, [5]int{11, 11, 11, 11, 11}},
		{example(), 5, [5]int{10, 15, 10, 15, 10}},
		{example(), 4, [5]int{8, 12, 8, 12, 12}},
		{example(), 22, [5]int{0, 22, 0, 22, 0}}, // just one half: to the even one
		{[]api.Tick{tick(1, 1, 10), tick(1, 1, 11)}, 1, [5]int{10, 11, 10, 11, 10}},
		{[]api.Tick{tick(1, 1, 11), tick(1, 1, 12)}, 1, [5]int{11, 12, 11, 12, 12}},
		{[]api.Tick{tick(1, 1, -10), tick(1, 1, -11)}, 1, [5]int{-10, -11, -11, -10, -10}},
		{[]api.Tick{tick(1, 1, -11), tick(1, 1, -12)}, 1, [5]int{-11, -12, -12, -11, -12}},
		{[]api.Tick{tick(1, 2, -10), tick(1, 1, -11)}, 1, [5]int{-10, -11, -11, -10, -10}},
		{[]api.Tick{tick(1, 3, -7), tick(2, 3, 7)}, 3, [5]int{0, 0, 0, 0, 0}},
		{[]api.Tick{tick(1, 1, 0)}, 7, [5]int{0, 0, 0, 0, 0}},
		{[]api.Tick{tick(1, 1, 1)}, api.MaxPrice, [5]int{0, api.MaxPrice, 0, api.MaxPrice, 0}},
		{[]api.Tick{tick(1, 1, -1)}, api.MaxPrice, [5]int{0, -api.MaxPrice, -api.MaxPrice, 0, 0}},
		{[]api.Tick{tick(1, 1, api.MaxPrice)}, api.MaxPrice - 1, [5]int{api.MaxPrice - 1, 2*api.MaxPrice - 2, api.MaxPrice - 1, 2*api.MaxPrice - 2, api.MaxPrice - 1}},
	} {
		for i, mode := range modes {
			given, unchanged := guarded(c.l)
			n, e := Vwap(given, c.step, mode)
			checkNumber(t, fmt.Sprintf("%v by %d, mode %d", c.l, c.step, mode), n, e, c.want[i], api.OK)
			if !unchanged() {
				t.Errorf("%v: the argument has changed", c.l)
			}
		}
	}
}

// P17.4: step, mode and ticks, the first error first.
func TestVwapErrors(t *testing.T) {
	for _, step := range noSteps {
		for _, mode := range append(noModes, modes...) {
			for _, l := range [][]api.Tick{nil, example()} {
				n, e := Vwap(l, step, mode)
				checkNumber(t, fmt.Sprintf("step %d, mode %d", step, mode), n, e, 0, api.ErrTick)
			}
		}
	}
	for _, mode := range noModes {
		for _, l := range [][]api.Tick{nil, example()} {
			for _, step := range []int{1, api.MaxPrice} {
				n, e := Vwap(l, step, mode)
				checkNumber(t, fmt.Sprintf("mode %d", mode), n, e, 0, api.ErrArg)
			}
		}
	}
	for _, mode := range modes {
		for _, l := range [][]api.Tick{nil, {}} {
			n, e := Vwap(l, 1, mode)
			checkNumber(t, "no tick", n, e, 0, api.ErrNone)
		}
	}
}

// P17.4: against fractions of any size.
func TestVwapExact(t *testing.T) {
	r := rand.New(rand.NewSource(4))
	for range 3000 {
		l := make([]api.Tick, 1+r.Intn(6))
		if r.Intn(50) == 0 {
			l = make([]api.Tick, api.MaxList)
		}
		steepest := []int{2, 20, api.MaxPrice}[r.Intn(3)]
		for i := range l {
			l[i] = tick(i, 1+r.Intn(steepest)%api.MaxQty, r.Intn(2*steepest+1)-steepest)
		}
		step, mode := 1+r.Intn(steepest), modes[r.Intn(len(modes))]
		n, e := Vwap(l, step, mode)
		checkNumber(t, fmt.Sprintf("%v by %d, mode %d", l, step, mode), n, e, step*exact(l, step, mode), api.OK)
	}
	most := make([]api.Tick, api.MaxList)
	for i := range most {
		most[i] = tick(86399, api.MaxQty, -api.MaxPrice)
	}
	for _, mode := range modes {
		for _, step := range []int{1, 1 << 10, api.MaxPrice - 1, api.MaxPrice} {
			n, e := Vwap(most, step, mode)
			checkNumber(t, fmt.Sprintf("the most by %d, mode %d", step, mode), n, e, step*exact(most, step, mode), api.OK)
		}
	}
}

// exact returns the quotient of P17.4, rounded by mode.
func exact(l []api.Tick, step, mode int) int {
	value, lots := new(big.Int), new(big.Int)
	for _, t := range l {
		value.Add(value, new(big.Int).Mul(big.NewInt(int64(t.Price)), big.NewInt(int64(t.Qty))))
		lots.Add(lots, big.NewInt(int64(t.Qty)))
	}
	divisor := lots.Mul(lots, big.NewInt(int64(step)))
	quotient, rest := new(big.Int).DivMod(value, divisor, new(big.Int)) // to the lesser one
	n := int(quotient.Int64())
	if rest.Sign() == 0 {
		return n
	}
	twice := rest.Lsh(rest, 1).Cmp(divisor)
	grows := map[int]bool{
		api.Down: n < 0,
		api.Up:   n >= 0,
		api.Ceil: true,
		api.Half: twice > 0 || twice == 0 && n&1 == 1,
	}
	if grows[mode] {
		return n + 1
	}
	return n
}

// P17.5
func TestLast(t *testing.T) {
	for _, l := range [][]api.Tick{nil, {}} {
		if last, ok := Last(l); ok || last != (api.Tick{}) {
			t.Errorf("of none: %v, %t", last, ok)
		}
	}
	for _, l := range [][]api.Tick{
		example(),
		{tick(3, 4, 5)},
		{{}},
		{tick(9, 1, 1), tick(2, -1, math.MaxInt)}, // the last in the list, not in time
		many(5000),
	} {
		given, unchanged := guarded(l)
		if last, ok := Last(given); !ok || last != l[len(l)-1] {
			t.Errorf("%v: %v, %t", l, last, ok)
		}
		if !unchanged() {
			t.Errorf("%v: the argument has changed", l)
		}
	}
}

// P17.5
func TestRange(t *testing.T) {
	for _, c := range []struct {
		l         []api.Tick
		low, high int
		ok        bool
	}{
		{nil, 0, 0, false},
		{[]api.Tick{}, 0, 0, false},
		{example(), 10, 13, true},
		{[]api.Tick{tick(1, 1, 7)}, 7, 7, true},
		{[]api.Tick{tick(1, 1, -7)}, -7, -7, true},
		{[]api.Tick{{}}, 0, 0, true},
		{[]api.Tick{tick(1, 1, 9), tick(2, 1, 3), tick(3, 1, 5)}, 3, 9, true},
		{[]api.Tick{tick(1, 1, 5), tick(2, 1, 9), tick(3, 1, 3)}, 3, 9, true},
		{[]api.Tick{tick(1, 1, -3), tick(2, 1, -9)}, -9, -3, true},
		{[]api.Tick{tick(9, 0, math.MaxInt), tick(-2, -1, math.MinInt)}, math.MinInt, math.MaxInt, true},
		{many(5000), -500, 4499, true},
	} {
		given, unchanged := guarded(c.l)
		if low, high, ok := Range(given); low != c.low || high != c.high || ok != c.ok {
			t.Errorf("%v: %d, %d, %t; want %d, %d, %t", c.l, low, high, ok, c.low, c.high, c.ok)
		}
		if !unchanged() {
			t.Errorf("%v: the argument has changed", c.l)
		}
	}
}

// P17.6
func TestMerge(t *testing.T) {
	checkMerge(t, "none", nil, nil, api.OK)
	checkMerge(t, "empty lists", []api.Tick{}, []api.Tick{}, api.OK)
	checkMerge(t, "the first one alone", example(), nil, api.OK, example()...)
	checkMerge(t, "the second one alone", nil, example(), api.OK, example()...)
	checkMerge(t, "one behind the other", example(), []api.Tick{tick(11, 1, 1)}, api.OK, tick(9, 2, 10), tick(10, 1, 13), tick(11, 1, 1))
	checkMerge(t, "one before the other", example(), []api.Tick{tick(8, 1, 1)}, api.OK, tick(8, 1, 1), tick(9, 2, 10), tick(10, 1, 13))
	// Prices and lots play no part in the order.
	a := []api.Tick{tick(5, 9, 9), tick(5, 1, 1), tick(7, 8, 8), tick(7, 2, 2)}
	b := []api.Tick{tick(4, 7, 0), tick(5, 3, 5), tick(5, 9, 9), tick(6, 1, 0), tick(7, 1, 0)}
	checkMerge(t, "of equal times", a, b, api.OK, b[0], a[0], a[1], b[1], b[2], b[3], a[2], a[3], b[4])
	checkMerge(t, "the other way", b, a, api.OK, b[0], b[1], b[2], a[0], a[1], b[3], b[4], a[2], a[3])
	checkMerge(t, "with itself", example(), example(), api.OK, tick(9, 2, 10), tick(9, 2, 10), tick(10, 1, 13), tick(10, 1, 13))
}

// P17.6: at most MaxList ticks in total.
func TestMergeLength(t *testing.T) {
	for _, n := range []int{0, 1, api.MaxList / 2, api.MaxList - 1, api.MaxList} {
		out, e := Merge(many(n), many(api.MaxList-n))
		if e != api.OK || len(out) != api.MaxList {
			t.Errorf("%d and the rest of MaxList: %d ticks, error %d", n, len(out), e)
		}
		checkMerge(t, fmt.Sprintf("%d and one too many", n), many(n), many(api.MaxList-n+1), api.ErrLong)
		checkMerge(t, fmt.Sprintf("one too many and %d", n), many(api.MaxList-n+1), many(n), api.ErrLong)
	}
	checkMerge(t, "twice as many", many(api.MaxList), many(api.MaxList), api.ErrLong)
}

// P17.6: against a merge tick by tick.
func TestMergeOrder(t *testing.T) {
	r := rand.New(rand.NewSource(6))
	for range 500 {
		a, b := random(r, r.Intn(40), 10), random(r, r.Intn(40), 10)
		var want []api.Tick
		i, j := 0, 0
		for i < len(a) || j < len(b) {
			if j == len(b) || i < len(a) && a[i].Time <= b[j].Time {
				want = append(want, a[i])
				i++
			} else {
				want = append(want, b[j])
				j++
			}
		}
		checkMerge(t, "at random", a, b, api.OK, want...)
	}
}

// P17.7: the average lies within the range of the prices.
func TestAverageInRange(t *testing.T) {
	r := rand.New(rand.NewSource(7))
	for range 2000 {
		l := random(r, 1+r.Intn(20), 100)
		low, high, _ := Range(l)
		for _, mode := range []int{api.Floor, api.Ceil} {
			n, e := Vwap(l, 1, mode)
			if e != api.OK || n < low || n > high {
				t.Errorf("%v: %d, error %d; want it between %d and %d", l, n, e, low, high)
			}
		}
	}
}

// P17.7: a merged tape is valid and has the lots of both.
func TestMergedTape(t *testing.T) {
	r := rand.New(rand.NewSource(8))
	for range 500 {
		a, b := random(r, r.Intn(60), 30), random(r, r.Intn(60), 30)
		out, e := Merge(a, b)
		checkError(t, "Merge", e, api.OK)
		checkError(t, "Check", Check(out), api.OK)
		inA, _ := Volume(a)
		inB, _ := Volume(b)
		n, e := Volume(out)
		checkNumber(t, "Volume", n, e, inA+inB, api.OK)
	}
}

func TestExamples(t *testing.T) {
	l := example()
	for _, c := range []struct{ step, mode, want int }{
		{1, api.Half, 11},
		{5, api.Down, 10},
		{5, api.Half, 10},
		{4, api.Half, 12},
	} {
		n, e := Vwap(l, c.step, c.mode)
		checkNumber(t, fmt.Sprintf("step %d, mode %d", c.step, c.mode), n, e, c.want, api.OK)
	}
	checkList(t, "Window", Window(l, 10, 20), l[1])
	if low, high, ok := Range(l); low != 10 || high != 13 || !ok {
		t.Errorf("Range: %d, %d, %t", low, high, ok)
	}
}
