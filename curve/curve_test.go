package curve

import (
	"fmt"
	"math"
	"math/big"
	"math/rand"
	"slices"
	"testing"

	"contango/api"
)

// far are ints that are not between -MaxPrice and MaxPrice.
var far = []int{math.MinInt, math.MinInt + 1, -1 << 32, -api.MaxPrice - 1, api.MaxPrice + 1, 1 << 32, 1<<32 + 1, math.MaxInt}

// noTicks are ints that are not between 1 and MaxPrice.
var noTicks = append([]int{0, -1}, far...)

// noDays are ints that are not between 0 and MaxDay.
var noDays = []int{math.MinInt, -1 << 32, -1, api.MaxDay + 1, 1 << 32, 1<<32 + 5, math.MaxInt}

func known(day, price int) api.Point {
	return api.Point{Expiry: day, Price: price, Known: true}
}

// gap returns a point that is not known, with a price that is to be ignored.
func gap(day int) api.Point {
	return api.Point{Expiry: day, Price: math.MinInt + day}
}

// example returns the curve of the chapter's example, with points that are not known.
func example() []api.Point {
	return []api.Point{gap(5), known(10, 100), gap(15), known(20, 121), gap(30)}
}

// many returns so many valid points, on the days 0, 2, 4 and so on; every third one is not known.
func many(n int) (l []api.Point) {
	for i := range n {
		l = append(l, api.Point{Expiry: 2 * i, Price: 7 * i, Known: i%3 != 2})
	}
	return l
}

// guarded returns a list with memory beyond its end, and a function that reports whether nothing of both has changed.
func guarded(l []api.Point) (given []api.Point, unchanged func() bool) {
	whole := append(slices.Clone(l), known(901, 902), gap(903))
	before := slices.Clone(whole)
	return whole[:len(l)], func() bool { return slices.Equal(whole, before) }
}

// spoil overwrites a result with all of its memory, so that what shares it with others is found out.
func spoil(l []api.Point) {
	l = l[:cap(l)]
	for i := range l {
		l[i] = known(-1, -2)
	}
}

func checkError(t *testing.T, what string, e, want api.Errno) {
	t.Helper()
	if e != want {
		t.Errorf("%s: error %d; want %d", what, e, want)
	}
}

func checkAt(t *testing.T, what string, l []api.Point, day, tick, want int, wantError api.Errno) {
	t.Helper()
	given, unchanged := guarded(l)
	price, e := At(given, day, tick)
	if price != want || e != wantError {
		t.Errorf("%s: day %d by %d: %d, error %d; want %d, error %d", what, day, tick, price, e, want, wantError)
	}
	if !unchanged() {
		t.Errorf("%s: the argument has changed", what)
	}
}

// checkPoints holds what a call returns for a list, that it leaves the list as it is, and that it shares no memory with it.
func checkPoints(t *testing.T, what string, l []api.Point, call func(l []api.Point) ([]api.Point, api.Errno), wantError api.Errno, want ...api.Point) {
	t.Helper()
	given, unchanged := guarded(l)
	out, e := call(given)
	checkError(t, what, e, wantError)
	if !slices.Equal(out, want) {
		t.Errorf("%s: %v; want %v", what, out, want)
	}
	spoil(out)
	if !unchanged() {
		t.Errorf("%s: the argument has changed", what)
	}
}

func checkFill(t *testing.T, what string, l []api.Point, tick int, wantError api.Errno, want ...api.Point) {
	t.Helper()
	fill := func(l []api.Point) ([]api.Point, api.Errno) { return Fill(l, tick) }
	checkPoints(t, fmt.Sprintf("%s: Fill by %d", what, tick), l, fill, wantError, want...)
}

func checkShift(t *testing.T, what string, l []api.Point, by, low, high int, wantError api.Errno, want ...api.Point) {
	t.Helper()
	shift := func(l []api.Point) ([]api.Point, api.Errno) { return Shift(l, by, low, high) }
	checkPoints(t, fmt.Sprintf("%s: Shift by %d from %d to %d", what, by, low, high), l, shift, wantError, want...)
}

// P19.1
func TestCheck(t *testing.T) {
	for what, l := range map[string][]api.Point{
		"the example":           example(),
		"one":                   {known(0, 0)},
		"one on the last day":   {known(api.MaxDay, 0)},
		"all days":              {known(0, 1), known(api.MaxDay, 2)},
		"days side by side":     {known(7, 1), known(8, 2), gap(9)},
		"the least price":       {known(3, -api.MaxPrice)},
		"the greatest price":    {known(3, api.MaxPrice)},
		"the first one known":   {known(3, 1), gap(4), gap(5)},
		"the last one known":    {gap(3), gap(4), known(5, 1)},
		"a far price not known": {known(3, 1), {Expiry: 4, Price: math.MaxInt}, {Expiry: 5, Price: -api.MaxPrice - 1}},
		"the most":              many(api.MaxSeries),
	} {
		given, unchanged := guarded(l)
		checkError(t, what, Check(given), api.OK)
		if !unchanged() {
			t.Errorf("%s: the argument has changed", what)
		}
	}
}

// P19.1: the errors in their order, which all functions return first.
func TestCheckInvalid(t *testing.T) {
	for what, c := range map[string]struct {
		l []api.Point
		e api.Errno
	}{
		"none":                            {nil, api.ErrLong},
		"an empty list":                   {[]api.Point{}, api.ErrLong},
		"one too many":                    {many(api.MaxSeries + 1), api.ErrLong},
		"far too many":                    {many(5000), api.ErrLong},
		"too many, all wrong":             {make([]api.Point, api.MaxSeries+1), api.ErrLong},
		"not known":                       {[]api.Point{gap(3)}, api.ErrNone},
		"none known":                      {[]api.Point{gap(3), gap(4), {Expiry: 5, Price: 1}}, api.ErrNone},
		"twice":                           {[]api.Point{known(3, 1), known(3, 1)}, api.ErrDate},
		"twice on the first day":          {[]api.Point{known(0, 1), known(0, 1)}, api.ErrDate},
		"twice on the last day":           {[]api.Point{known(api.MaxDay, 1), gap(api.MaxDay)}, api.ErrDate},
		"back":                            {[]api.Point{known(3, 1), known(2, 1)}, api.ErrDate},
		"back, not known":                 {[]api.Point{known(3, 1), gap(2)}, api.ErrDate},
		"back behind one not known":       {[]api.Point{gap(3), known(2, 1)}, api.ErrDate},
		"a day farther ahead":             {[]api.Point{known(1, 1), known(3, 1), known(2, 1)}, api.ErrDate},
		"a day and a price":               {[]api.Point{known(-1, math.MaxInt)}, api.ErrDate},
		"a price, then a day":             {[]api.Point{known(3, api.MaxPrice+1), gap(3)}, api.ErrPrice},
		"a day, then a price":             {[]api.Point{known(3, 1), known(3, 1), known(4, math.MinInt)}, api.ErrDate},
		"a day, none known":               {[]api.Point{gap(3), gap(3)}, api.ErrDate},
		"a price behind one not known":    {[]api.Point{gap(3), known(4, -api.MaxPrice-1)}, api.ErrPrice},
		"the last of many on a day ahead": {append(many(api.MaxSeries-1), known(1, 1)), api.ErrDate},
	} {
		checkInvalid(t, what, c.l, c.e)
	}
	for _, day := range noDays {
		checkInvalid(t, fmt.Sprintf("day %d", day), []api.Point{known(day, 1)}, api.ErrDate)
		checkInvalid(t, fmt.Sprintf("day %d, not known", day), []api.Point{known(3, 1), gap(day)}, api.ErrDate)
	}
	for i, p := range many(api.MaxSeries) {
		for _, price := range far {
			l := many(api.MaxSeries)
			l[i].Price = price
			want := api.OK
			if p.Known {
				want = api.ErrPrice
			}
			checkError(t, fmt.Sprintf("a price of %d at %d", price, i), Check(l), want)
		}
	}
}

// checkInvalid holds that all functions return the error of a list ahead of their own ones.
func checkInvalid(t *testing.T, what string, l []api.Point, want api.Errno) {
	t.Helper()
	checkError(t, what+": Check", Check(l), want)
	checkAt(t, what, l, 3, 1, 0, want)
	checkAt(t, what, l, -1, 0, 0, want)
	checkFill(t, what, l, 1, want)
	checkFill(t, what, l, 0, want)
	checkShift(t, what, l, 0, -5, 5, want)
	checkShift(t, what, l, math.MaxInt, 5, -5, want)
}

// P19.2
func TestAt(t *testing.T) {
	for _, c := range []struct {
		day, tick, want int
	}{
		{0, 5, 100}, {5, 5, 100}, {9, 5, 100}, {10, 5, 100},
		{11, 1, 102}, {12, 1, 104}, {13, 1, 106}, {14, 1, 108}, {15, 1, 110}, {16, 1, 113}, {17, 1, 115}, {18, 1, 117}, {19, 1, 119},
		{11, 5, 100}, {12, 5, 105}, {13, 5, 105}, {14, 5, 110}, {15, 5, 110}, {16, 5, 115}, {17, 5, 115}, {18, 5, 115}, {19, 5, 120},
		{11, 40, 120}, {19, 40, 120}, {11, 1000, 0}, {15, 221, 0}, {15, 220, 220}, {15, api.MaxPrice, 0},
		{20, 5, 121}, {21, 5, 121}, {30, 5, 121}, {api.MaxDay, api.MaxPrice, 121}, {0, api.MaxPrice, 100}, {20, api.MaxPrice, 121},
	} {
		checkAt(t, "the example", example(), c.day, c.tick, c.want, api.OK)
		checkAt(t, "the known points alone", []api.Point{known(10, 100), known(20, 121)}, c.day, c.tick, c.want, api.OK)
	}
	for _, day := range []int{0, 6, 7, 8, api.MaxDay} {
		checkAt(t, "one point", []api.Point{known(7, 13)}, day, 5, 13, api.OK)
		checkAt(t, "one known point", []api.Point{gap(6), known(7, 13), gap(8)}, day, 5, 13, api.OK)
	}
}

// P19.2: of two equally near multiples the even one, below 0 too and whether the line rises or falls.
func TestAtTies(t *testing.T) {
	for _, c := range []struct {
		a, b, tick, want int
	}{
		{0, 1, 1, 0}, {1, 2, 1, 2}, {2, 3, 1, 2}, {3, 4, 1, 4}, {-1, 0, 1, 0}, {-2, -1, 1, -2}, {-3, -2, 1, -2}, {-1, 2, 1, 0}, {-2, 1, 1, 0},
		{5, 10, 5, 10}, {10, 15, 5, 10}, {0, 5, 5, 0}, {-5, 0, 5, 0}, {-10, -5, 5, -10}, {-15, -10, 5, -10}, {-5, 10, 5, 0},
		{1, 1, 2, 0}, {3, 3, 2, 4}, {-1, -1, 2, 0}, {-3, -3, 2, -4}, {2, 4, 2, 4}, {1, 3, 4, 0}, {5, 7, 4, 8},
		{0, api.MaxPrice, api.MaxPrice, 0}, {-api.MaxPrice, 0, api.MaxPrice, 0}, {-api.MaxPrice, api.MaxPrice, 1, 0},
	} {
		for _, l := range [][]api.Point{{known(10, c.a), known(20, c.b)}, {known(10, c.b), known(20, c.a)}} {
			checkAt(t, fmt.Sprint(l), l, 15, c.tick, c.want, api.OK)
		}
	}
}

// P19.2: each stretch has its own line, whatever lies beyond it.
func TestAtStretches(t *testing.T) {
	l := []api.Point{gap(0), known(10, 0), known(20, 100), gap(22), known(30, -100), gap(31), gap(32), known(50, -80), gap(51)}
	for _, c := range [][2]int{{0, 0}, {9, 0}, {10, 0}, {11, 10}, {19, 90}, {20, 100}, {21, 80}, {22, 60}, {25, 0}, {29, -80}, {30, -100}, {31, -99}, {32, -98}, {49, -81}, {50, -80}, {51, -80}, {api.MaxDay, -80}} {
		checkAt(t, "stretches", l, c[0], 1, c[1], api.OK)
	}
}

// P19.2: the tick first.
func TestAtErrors(t *testing.T) {
	for _, tick := range noTicks {
		for _, day := range append([]int{0, 10, 15, api.MaxDay}, noDays...) {
			checkAt(t, "no tick", example(), day, tick, 0, api.ErrTick)
		}
	}
	for _, tick := range []int{1, api.MaxPrice} {
		for _, day := range noDays {
			checkAt(t, "no day", example(), day, tick, 0, api.ErrDate)
		}
	}
}

// P19.2: an interpolated price may exceed MaxPrice by less than a tick; a known one stays as it is.
func TestAtBeyond(t *testing.T) {
	l := []api.Point{known(0, api.MaxPrice), known(2, api.MaxPrice)}
	checkAt(t, "beyond", l, 1, 10000000, 20000000, api.OK)
	checkAt(t, "beyond", l, 1, api.MaxPrice-1, api.MaxPrice-1, api.OK)
	checkAt(t, "as it is", l, 2, 10000000, api.MaxPrice, api.OK)
	l = []api.Point{known(0, -api.MaxPrice), gap(1), known(api.MaxDay, -api.MaxPrice)}
	checkAt(t, "beyond, downwards", l, 1, 10000000, -20000000, api.OK)
	checkFill(t, "beyond, downwards", l, 10000000, api.OK, l[0], known(1, -20000000), l[2])
}

// nearest returns the multiple of step that is nearest to a fraction, of two that are as near the even one.
func nearest(exact *big.Rat, step int) int {
	steps := new(big.Rat).Quo(exact, big.NewRat(int64(step), 1))
	floor := new(big.Int).Div(steps.Num(), steps.Denom())
	rest := new(big.Rat).Sub(steps, new(big.Rat).SetInt(floor))
	n := int(floor.Int64())
	switch rest.Cmp(big.NewRat(1, 2)) {
	case 1:
		n++
	case 0:
		n += n & 1
	}
	return n * step
}

// expected returns the price of a day as P19.2 has it, and whether it is interpolated; a and b are the known prices around it.
func expected(l []api.Point, day, step int) (price, a, b int, isBetween bool) {
	var points []api.Point
	for _, p := range l {
		if p.Known {
			points = append(points, p)
		}
	}
	last := points[len(points)-1]
	if day >= last.Expiry {
		return last.Price, 0, 0, false
	}
	for i, q := range points {
		if day == q.Expiry || day < q.Expiry && i == 0 {
			return q.Price, 0, 0, false
		}
		if day < q.Expiry {
			p := points[i-1]
			exact := big.NewRat(int64((q.Price-p.Price)*(day-p.Expiry)), int64(q.Expiry-p.Expiry))
			exact.Add(exact, big.NewRat(int64(p.Price), 1))
			return nearest(exact, step), p.Price, q.Price, true
		}
	}
	panic("not reached")
}

// random returns a valid curve of at most 9 points, whose prices and days are of some width, and one tick.
func random(r *rand.Rand) (l []api.Point, days, tick int) {
	days = []int{12, 40, api.MaxDay}[r.Intn(3)]
	width := []int{4, 60, 1000, api.MaxPrice}[r.Intn(4)]
	tick = 1 + r.Intn([]int{1, 2, 7, 1000, api.MaxPrice}[r.Intn(5)])
	for day := r.Intn(1 + days/3); day <= days && len(l) < 9; day += 1 + r.Intn(1+days/4) {
		l = append(l, api.Point{Expiry: day, Price: r.Intn(2*width+1) - width, Known: r.Intn(2) == 0})
	}
	l[r.Intn(len(l))].Known = true
	return l, days, tick
}

// P19.2, P19.5: prices are the exact ones, rounded, and interpolated ones lie between the two known ones up to half a tick.
func TestAtRandom(t *testing.T) {
	r := rand.New(rand.NewSource(19))
	seen := 0
	for range 20000 {
		l, days, tick := random(r)
		day := r.Intn(days + 1)
		want, a, b, isBetween := expected(l, day, tick)
		checkAt(t, fmt.Sprint(l), l, day, tick, want, api.OK)
		if !isBetween {
			continue
		}
		seen++
		price, _ := At(l, day, tick)
		if 2*price < 2*min(a, b)-tick || 2*price > 2*max(a, b)+tick || price%tick != 0 {
			t.Errorf("%v: day %d by %d: %d is not between %d and %d", l, day, tick, price, a, b)
		}
	}
	if seen < 3000 {
		t.Errorf("only %d interpolated prices", seen)
	}
}

// P19.3
func TestFill(t *testing.T) {
	checkFill(t, "the example", example(), 5, api.OK, known(5, 100), known(10, 100), known(15, 110), known(20, 121), known(30, 121))
	checkFill(t, "the example", example(), 40, api.OK, known(5, 100), known(10, 100), known(15, 120), known(20, 121), known(30, 121))
	checkFill(t, "all known", []api.Point{known(1, 7), known(2, -3)}, 5, api.OK, known(1, 7), known(2, -3))
	checkFill(t, "one known", []api.Point{gap(1), known(2, -3), gap(3), gap(4)}, 5, api.OK, known(1, -3), known(2, -3), known(3, -3), known(4, -3))
	// Had the point of day 11 been rounded to 0 first, that of day 12 would be 0 too.
	checkFill(t, "no price rests on a filled one", []api.Point{known(10, 0), gap(11), gap(12), known(13, 12)}, 10, api.OK, known(10, 0), known(11, 0), known(12, 10), known(13, 12))
	for _, tick := range noTicks {
		checkFill(t, "no tick", example(), tick, api.ErrTick)
		checkFill(t, "no tick, all known", []api.Point{known(1, 7)}, tick, api.ErrTick)
	}
	out, e := Fill(many(api.MaxSeries), 1)
	checkError(t, "the most", e, api.OK)
	for i, p := range out {
		if p != known(2*i, 7*i) { // all lie on one line
			t.Errorf("the most: %v; want %v", p, known(2*i, 7*i))
		}
	}
}

// P19.4
func TestShift(t *testing.T) {
	const widest = api.MaxPrice
	checkShift(t, "the example", example(), 10, -widest, widest, api.OK, gap(5), known(10, 110), gap(15), known(20, 131), gap(30))
	checkShift(t, "the example", example(), -10, -widest, widest, api.OK, gap(5), known(10, 90), gap(15), known(20, 111), gap(30))
	checkShift(t, "not moved", example(), 0, -widest, widest, api.OK, example()...)
	checkShift(t, "the bounds", example(), 0, 100, 121, api.OK, example()...)
	checkShift(t, "raised", example(), 0, 101, 121, api.OK, gap(5), known(10, 101), gap(15), known(20, 121), gap(30))
	checkShift(t, "lowered", example(), 0, 100, 120, api.OK, gap(5), known(10, 100), gap(15), known(20, 120), gap(30))
	checkShift(t, "moved, then lowered", example(), 10, 0, 120, api.OK, gap(5), known(10, 110), gap(15), known(20, 120), gap(30))
	checkShift(t, "moved, then raised", example(), -30, 80, 120, api.OK, gap(5), known(10, 80), gap(15), known(20, 91), gap(30))
	checkShift(t, "one price", example(), 3, 7, 7, api.OK, gap(5), known(10, 7), gap(15), known(20, 7), gap(30))
	checkShift(t, "the widest move", example(), widest, -widest, widest, api.OK, gap(5), known(10, widest), gap(15), known(20, widest), gap(30))
	checkShift(t, "the widest move downwards", []api.Point{known(1, -1), known(2, widest)}, -widest, -widest, widest, api.OK, known(1, -widest), known(2, 0))
}

// P19.4: by first, then the bounds.
func TestShiftErrors(t *testing.T) {
	for _, n := range far {
		for _, bounds := range [][2]int{{0, 10}, {1, 0}, {n, n}} {
			checkShift(t, "by", example(), n, bounds[0], bounds[1], api.ErrPrice)
		}
		for _, by := range []int{-api.MaxPrice, 0, api.MaxPrice} {
			checkShift(t, "low", example(), by, n, 10, api.ErrArg)
			checkShift(t, "low", example(), by, n, api.MaxPrice, api.ErrArg)
			checkShift(t, "high", example(), by, 10, n, api.ErrArg)
			checkShift(t, "high", example(), by, -api.MaxPrice, n, api.ErrArg)
			checkShift(t, "both", example(), by, n, n, api.ErrArg)
		}
	}
	checkShift(t, "low above high", example(), 1, 1, 0, api.ErrArg)
	checkShift(t, "low far above high", example(), 1, api.MaxPrice, -api.MaxPrice, api.ErrArg)
}

// P19.6: all prices move as the known ones do, by an even number of ticks.
func TestMoved(t *testing.T) {
	r := rand.New(rand.NewSource(6))
	for range 3000 {
		l, days, tick := random(r)
		for i := range l {
			l[i].Price /= 8 // so that no bound holds the moved ones
		}
		tick = 1 + (tick-1)%100000
		by := 2 * tick * (r.Intn(21) - 10)
		moved, e := Shift(l, by, -api.MaxPrice, api.MaxPrice)
		checkError(t, "Shift", e, api.OK)
		for range 5 {
			day := r.Intn(days + 1)
			before, _ := At(l, day, tick)
			checkAt(t, fmt.Sprintf("%v moved by %d", l, by), moved, day, tick, before+by, api.OK)
		}
	}
}

// P19.7: a filled curve returns the prices of its days, by any tick, and stays as it is.
func TestFilled(t *testing.T) {
	r := rand.New(rand.NewSource(7))
	for range 3000 {
		l, _, tick := random(r)
		filled, e := Fill(l, tick)
		checkError(t, "Fill", e, api.OK)
		beyond := slices.ContainsFunc(filled, func(p api.Point) bool { return max(p.Price, -p.Price) > api.MaxPrice })
		if beyond {
			checkFill(t, fmt.Sprint(filled), filled, tick, api.ErrPrice)
			continue
		}
		checkFill(t, fmt.Sprint(filled), filled, tick, api.OK, filled...)
		checkFill(t, fmt.Sprint(filled), filled, 1+r.Intn(100), api.OK, filled...)
		for i, p := range filled {
			price, e := At(l, p.Expiry, tick)
			if p != known(l[i].Expiry, price) || e != api.OK {
				t.Errorf("%v filled by %d: %v; At returns %d, error %d", l, tick, p, price, e)
			}
			checkAt(t, fmt.Sprint(filled), filled, p.Expiry, tick, p.Price, api.OK)
		}
	}
}

func TestExamples(t *testing.T) {
	l := []api.Point{known(10, 100), known(20, 121)}
	for day, price := range map[int]int{5: 100, 15: 110, 20: 121, 30: 121} {
		checkAt(t, "example 1", l, day, 5, price, api.OK)
	}
}
