package share

import (
	"math"
	"math/big"
	"math/rand"
	"slices"
	"testing"

	"contango/api"
)

const most = api.MaxMoney

// outside are ints that are not between 0 and MaxMoney.
var outside = []int{-1, most + 1, -most, -most - 1, math.MaxInt, math.MinInt}

func checkParts(t *testing.T, what string, parts []int, e api.Errno, want []int) {
	t.Helper()
	if e != api.OK || !slices.Equal(parts, want) {
		t.Errorf("%s: %v, error %d; want %v", what, parts, e, want)
	}
}

func checkRest(t *testing.T, what string, parts []int, rest int, e api.Errno, want []int, wantRest int) {
	t.Helper()
	if e != api.OK || rest != wantRest || !slices.Equal(parts, want) {
		t.Errorf("%s: %v, rest %d, error %d; want %v, rest %d", what, parts, rest, e, want, wantRest)
	}
}

// checkError also holds that nothing comes beside an error.
func checkError(t *testing.T, what string, parts []int, rest int, e, want api.Errno) {
	t.Helper()
	if e != want || len(parts) != 0 || rest != 0 {
		t.Errorf("%s: %v, rest %d, error %d; want error %d", what, parts, rest, e, want)
	}
}

func repeat(n, times int) []int {
	return slices.Repeat([]int{n}, times)
}

func total(l []int) (n int) {
	for _, v := range l {
		n += v
	}
	return n
}

// upTo returns a random number of a random number of bits, at most high.
func upTo(r *rand.Rand, high int) int {
	return r.Int() >> r.Intn(63) % (high + 1)
}

// randomWeights returns some weights, many of them equal or 0, with a sum that fits and is above 0.
func randomWeights(r *rand.Rand) (l []int) {
	l = make([]int, 1+r.Intn(12))
	bound := upTo(r, most/len(l))
	for i := range l {
		l[i] = upTo(r, bound)
		if i > 0 && r.Intn(3) == 0 {
			l[i] = l[r.Intn(i)]
		}
	}
	if total(l) == 0 {
		l[r.Intn(len(l))] = 1
	}
	return l
}

// exactSplit follows the definition on numbers of any length: it ranks the elements by remainder and index.
func exactSplit(whole int, weights []int) []int {
	sum := big.NewInt(int64(total(weights)))
	parts := make([]int, len(weights))
	rests := make([]*big.Int, len(weights))
	ranks := make([]int, len(weights))
	for i, w := range weights {
		product := new(big.Int).Mul(big.NewInt(int64(whole)), big.NewInt(int64(w)))
		quotient, rest := new(big.Int).QuoRem(product, sum, new(big.Int))
		parts[i], rests[i], ranks[i] = int(quotient.Int64()), rest, i
	}
	slices.SortStableFunc(ranks, func(i, j int) int { return rests[j].Cmp(rests[i]) })
	for _, i := range ranks[:whole-total(parts)] {
		parts[i]++
	}
	return parts
}

// exactCapped follows the definition round by round, on lists of those that take part.
func exactCapped(whole int, weights, caps []int) (parts []int, rest int) {
	parts, rest = make([]int, len(weights)), whole
	for {
		var who, their []int
		for i, w := range weights {
			if w > 0 && parts[i] < caps[i] {
				who, their = append(who, i), append(their, w)
			}
		}
		if rest == 0 || len(who) == 0 {
			return parts, rest
		}
		offers, over := exactSplit(rest, their), false
		for k, i := range who {
			over = over || offers[k] > caps[i]
		}
		for k, i := range who {
			if !over {
				parts[i] = offers[k]
				rest -= offers[k]
			} else if offers[k] > caps[i] {
				parts[i] = caps[i]
				rest -= caps[i]
			}
		}
		if !over {
			return parts, rest
		}
	}
}

// P2.1
func TestSplit(t *testing.T) {
	for _, c := range []struct {
		total         int
		weights, want []int
	}{
		{10, []int{1, 1, 1}, []int{4, 3, 3}},
		{11, []int{1, 1, 1}, []int{4, 4, 3}},
		{100, []int{1, 2, 4}, []int{14, 29, 57}},
		{1, []int{1, 2}, []int{0, 1}},
		{1, []int{1, 1}, []int{1, 0}},
		{2, []int{1, 1, 1, 1}, []int{1, 1, 0, 0}},
		{3, []int{5, 1, 5, 1}, []int{2, 0, 1, 0}}, // equal remainders of unequal weights
		{0, []int{5, 0}, []int{0, 0}},
		{0, []int{1, 1, 1}, []int{0, 0, 0}},
		{7, []int{0, 3}, []int{0, 7}},
		{7, []int{0, 3, 0, 3, 0}, []int{0, 4, 0, 3, 0}},
		{5, []int{9}, []int{5}},
		{most, []int{1}, []int{most}},
		{most, []int{most}, []int{most}},
		{1, []int{most}, []int{1}},
		{most, []int{most / 2, most / 2}, []int{most / 2, most / 2}},
		{most, []int{most - 1, 1}, []int{most - 1, 1}},
		{most - 1, []int{most - 1, 1}, []int{most - 2, 1}},
		{most, []int{1, 1, 1}, []int{most/3 + 1, most / 3, most / 3}},
		{most, []int{0, most, 0}, []int{0, most, 0}},
	} {
		parts, e := Split(c.total, c.weights)
		checkParts(t, "Split", parts, e, c.want)
	}
}

// P2.1: as many weights as there may be.
func TestSplitLong(t *testing.T) {
	parts, e := Split(api.MaxList-1, repeat(7, api.MaxList))
	checkParts(t, "a cent too few", parts, e, append(repeat(1, api.MaxList-1), 0))
	parts, e = Split(1, repeat(most/api.MaxList, api.MaxList))
	checkParts(t, "one cent", parts, e, append([]int{1}, repeat(0, api.MaxList-1)...))
	parts, e = Split(most, repeat(most/api.MaxList, api.MaxList))
	checkParts(t, "all", parts, e, repeat(most/api.MaxList, api.MaxList))
}

// P2.1, P2.4
func TestSplitRandom(t *testing.T) {
	r := rand.New(rand.NewSource(1))
	for range 5000 {
		whole, weights := upTo(r, most), randomWeights(r)
		if r.Intn(2) == 0 {
			whole %= 100
		}
		parts, e := Split(whole, weights)
		checkParts(t, "Split", parts, e, exactSplit(whole, weights))
		if total(parts) != whole {
			t.Fatalf("%d by %v: %v is not all", whole, weights, parts)
		}
		checkShares(t, whole, weights, parts)
	}
}

// checkShares holds that no part deviates from its exact share by a cent, and that a greater weight gets no less.
func checkShares(t *testing.T, whole int, weights, parts []int) {
	t.Helper()
	sum := big.NewInt(int64(total(weights)))
	for i, w := range weights {
		exact := new(big.Int).Mul(big.NewInt(int64(whole)), big.NewInt(int64(w)))
		got := new(big.Int).Mul(big.NewInt(int64(parts[i])), sum)
		if got.Sub(got, exact).CmpAbs(sum) >= 0 {
			t.Errorf("%d by %v: part %d of %v is off by a cent", whole, weights, i, parts)
		}
		for j, v := range weights {
			if w > v && parts[i] < parts[j] {
				t.Errorf("%d by %v: %v gives less for more", whole, weights, parts)
			}
		}
	}
}

// P2.1: the errors, in their order; Signed has them too, but for totals below 0.
func TestSplitErrors(t *testing.T) {
	tooMany := repeat(1, api.MaxList+1)
	for _, bad := range outside {
		for _, weights := range [][]int{{1}, nil, {-1}, tooMany} {
			parts, e := Split(bad, weights)
			checkError(t, "total", parts, 0, e, api.ErrArg)
		}
	}
	for _, weights := range [][]int{tooMany, repeat(0, api.MaxList+1), append([]int{-1}, tooMany...), append(tooMany, most+1)} {
		parts, e := Split(5, weights)
		checkError(t, "too many", parts, 0, e, api.ErrLong)
		parts, e = Signed(-5, weights)
		checkError(t, "too many, signed", parts, 0, e, api.ErrLong)
	}
	weights := [][]int{
		nil, {}, {0}, repeat(0, api.MaxList), {2, -1}, {-1, 2}, {math.MinInt}, {most + 1}, {1, math.MaxInt},
		{most, 1}, {1, most}, {most, most}, repeat(most, 16), repeat(most, 17), repeat(most, api.MaxList), {most / 2, most/2 + 1},
		{most, -1}, {most, most, -most},
	}
	for _, l := range weights {
		for _, whole := range []int{0, 1, most} {
			parts, e := Split(whole, l)
			checkError(t, "weights", parts, 0, e, api.ErrWeight)
			parts, e = Signed(-whole, l)
			checkError(t, "weights, signed", parts, 0, e, api.ErrWeight)
			parts, e = Signed(whole, l)
			checkError(t, "weights, signed", parts, 0, e, api.ErrWeight)
		}
	}
}

// P2.1
func TestSigned(t *testing.T) {
	for _, c := range []struct {
		total         int
		weights, want []int
	}{
		{-10, []int{1, 1, 1}, []int{-4, -3, -3}},
		{10, []int{1, 1, 1}, []int{4, 3, 3}},
		{-100, []int{1, 2, 4}, []int{-14, -29, -57}},
		{0, []int{1, 2}, []int{0, 0}},
		{-1, []int{0, 1, 1}, []int{0, -1, 0}},
		{-most, []int{1}, []int{-most}},
		{most, []int{1}, []int{most}},
		{-most, []int{1, 1, 1}, []int{-most/3 - 1, -most / 3, -most / 3}},
	} {
		parts, e := Signed(c.total, c.weights)
		checkParts(t, "Signed", parts, e, c.want)
	}
	for _, bad := range []int{most + 1, -most - 1, math.MaxInt, math.MinInt, -math.MaxInt} {
		for _, weights := range [][]int{{1}, nil, {-1}, repeat(1, api.MaxList+1)} {
			parts, e := Signed(bad, weights)
			checkError(t, "total", parts, 0, e, api.ErrArg)
		}
	}
}

// P2.2
func TestCapped(t *testing.T) {
	for _, c := range []struct {
		total         int
		weights, caps []int
		want          []int
		rest          int
	}{
		{100, []int{1, 1, 2}, []int{10, 50, 100}, []int{10, 30, 60}, 0},
		{100, []int{1, 1, 2}, []int{10, 10, 10}, []int{10, 10, 10}, 70},
		{100, []int{1, 1, 2}, []int{0, 0, 0}, []int{0, 0, 0}, 100},
		{100, []int{1, 1, 2}, []int{100, 100, 100}, []int{25, 25, 50}, 0},
		{100, []int{1, 1, 2}, []int{25, 25, 50}, []int{25, 25, 50}, 0}, // at the caps, none above
		{100, []int{1, 1, 2}, []int{25, 25, 49}, []int{25, 25, 49}, 1},
		{100, []int{1, 1, 2}, []int{0, 50, 100}, []int{0, 33, 67}, 0},
		{100, []int{1, 0, 1}, []int{30, 100, 40}, []int{30, 0, 40}, 30}, // no weight, nothing
		{5, []int{0, 0}, []int{9, 9}, []int{0, 0}, 5},
		{5, nil, nil, nil, 5},
		{0, nil, nil, nil, 0},
		{0, []int{1, 2}, []int{3, 4}, []int{0, 0}, 0},
		{1, []int{1, 1}, []int{0, 1}, []int{0, 1}, 0},
		// In the first round only the last one is above its cap, in the second only the first one.
		{100, []int{1, 1, 8}, []int{20, 90, 10}, []int{20, 70, 10}, 0},
		// Those that are not above their caps wait: 33 for the second would be less than it gets.
		{100, []int{1, 1, 1}, []int{5, 60, 60}, []int{5, 48, 47}, 0},
		// Of a tie's odd cent the first one would have too much by just that cent.
		{3, []int{1, 1}, []int{1, 9}, []int{1, 2}, 0},
		{most, []int{most - 1, 1}, []int{most, most}, []int{most - 1, 1}, 0},
		{most, []int{most}, []int{most - 1}, []int{most - 1}, 1},
		{most, []int{1, 1}, []int{most, 0}, []int{most, 0}, 0},
	} {
		parts, rest, e := Capped(c.total, c.weights, c.caps)
		checkRest(t, "Capped", parts, rest, e, c.want, c.rest)
	}
}

// P2.2, P2.4, P2.5
func TestCappedRandom(t *testing.T) {
	r := rand.New(rand.NewSource(2))
	for range 5000 {
		whole, weights := upTo(r, most), randomWeights(r)
		if r.Intn(2) == 0 {
			whole %= 200
		}
		caps := make([]int, len(weights))
		for i := range caps {
			caps[i] = upTo(r, min(most, whole/len(weights)*3+2))
		}
		parts, rest, e := Capped(whole, weights, caps)
		want, wantRest := exactCapped(whole, weights, caps)
		checkRest(t, "Capped", parts, rest, e, want, wantRest)
		if total(parts)+rest != whole {
			t.Fatalf("%d by %v up to %v: %v and %d are not all", whole, weights, caps, parts, rest)
		}
		for i := range parts {
			if parts[i] > caps[i] || rest > 0 && weights[i] > 0 && parts[i] < caps[i] {
				t.Fatalf("%d by %v up to %v: %v, rest %d", whole, weights, caps, parts, rest)
			}
		}
	}
}

// P2.2: as many elements as there may be.
func TestCappedLong(t *testing.T) {
	const half = api.MaxList / 2
	ones := repeat(1, api.MaxList)
	parts, rest, e := Capped(most, ones, ones)
	checkRest(t, "all in one round", parts, rest, e, ones, most-api.MaxList)
	// There is always one cent more than elements, so that each round closes the first open one, and only that.
	parts, rest, e = Capped(api.MaxList+1, ones, ones)
	checkRest(t, "one a round", parts, rest, e, ones, 1)
	// Each round offers a second cent to half of the elements, to one that may not have it and to those that may.
	caps := slices.Concat([]int{1}, repeat(2, half-1), repeat(1, half))
	parts, rest, e = Capped(api.MaxList+half, ones, caps)
	checkRest(t, "half as many rounds", parts, rest, e, caps, 1)
}

// P2.2: the errors, in their order.
func TestCappedErrors(t *testing.T) {
	one, tooMany := []int{1}, repeat(1, api.MaxList+1)
	for _, bad := range outside {
		for _, weights := range [][]int{one, nil, {-1}, tooMany} {
			parts, rest, e := Capped(bad, weights, one)
			checkError(t, "total", parts, rest, e, api.ErrArg)
		}
	}
	for _, c := range []struct {
		weights, caps []int
		e             api.Errno
	}{
		{tooMany, tooMany, api.ErrLong},
		{repeat(0, api.MaxList+1), nil, api.ErrLong},
		{repeat(-1, api.MaxList+1), repeat(-1, api.MaxList+1), api.ErrLong},
		{[]int{-1}, one, api.ErrWeight},
		{[]int{-1}, nil, api.ErrWeight},
		{[]int{1, -1}, []int{-1, 1}, api.ErrWeight},
		{[]int{most + 1}, one, api.ErrWeight},
		{[]int{math.MinInt}, one, api.ErrWeight},
		{[]int{most, 1}, []int{1, 1}, api.ErrWeight},
		{repeat(most, 16), repeat(1, 16), api.ErrWeight},
		{[]int{most, 1}, []int{1, -1}, api.ErrWeight},
		{one, nil, api.ErrArg},
		{nil, one, api.ErrArg},
		{one, []int{1, 1}, api.ErrArg},
		{[]int{1, 1}, one, api.ErrArg},
		{one, tooMany, api.ErrArg},
		{[]int{0, 0}, one, api.ErrArg},
		{[]int{1, 0}, []int{1, -1}, api.ErrArg},
		{[]int{1, 0}, []int{1, most + 1}, api.ErrArg},
		{[]int{1, 0}, []int{math.MaxInt, 1}, api.ErrArg},
	} {
		for _, whole := range []int{0, 1, most} {
			parts, rest, e := Capped(whole, c.weights, c.caps)
			checkError(t, "Capped", parts, rest, e, c.e)
		}
	}
}

// P2.3
func TestFill(t *testing.T) {
	for _, c := range []struct {
		total      int
		caps, want []int
		rest       int
	}{
		{25, []int{10, 10, 10}, []int{10, 10, 5}, 0},
		{25, []int{10}, []int{10}, 15},
		{30, []int{10, 10, 10}, []int{10, 10, 10}, 0},
		{31, []int{10, 10, 10}, []int{10, 10, 10}, 1},
		{10, []int{10, 10, 10}, []int{10, 0, 0}, 0},
		{5, []int{0, 3, 0, 9}, []int{0, 3, 0, 2}, 0},
		{0, []int{1, 2}, []int{0, 0}, 0},
		{0, nil, nil, 0},
		{7, nil, nil, 7},
		{7, []int{}, nil, 7},
		{most, []int{most}, []int{most}, 0},
		{most, []int{most - 1, most}, []int{most - 1, 1}, 0},
		{most, repeat(most, api.MaxList), append([]int{most}, repeat(0, api.MaxList-1)...), 0},
		{most, repeat(1, api.MaxList), repeat(1, api.MaxList), most - api.MaxList},
	} {
		parts, rest, e := Fill(c.total, c.caps)
		checkRest(t, "Fill", parts, rest, e, c.want, c.rest)
	}
}

// P2.3
func TestBack(t *testing.T) {
	for _, c := range []struct {
		total      int
		paid, want []int
		rest       int
	}{
		{7, []int{10, 10, 5}, []int{0, 2, 5}, 0},
		{5, []int{10, 10, 5}, []int{0, 0, 5}, 0},
		{4, []int{10, 10, 5}, []int{0, 0, 4}, 0},
		{25, []int{10, 10, 5}, []int{10, 10, 5}, 0},
		{40, []int{10, 10, 5}, []int{10, 10, 5}, 15},
		{5, []int{9, 0, 3, 0}, []int{2, 0, 3, 0}, 0},
		{0, []int{1, 2}, []int{0, 0}, 0},
		{7, nil, nil, 7},
		{0, nil, nil, 0},
		{most, []int{most}, []int{most}, 0},
		{most, []int{most, most - 1}, []int{1, most - 1}, 0},
		{most, repeat(most, api.MaxList), append(repeat(0, api.MaxList-1), most), 0},
		{most, repeat(1, api.MaxList), repeat(1, api.MaxList), most - api.MaxList},
	} {
		parts, rest, e := Back(c.total, c.paid)
		checkRest(t, "Back", parts, rest, e, c.want, c.rest)
	}
}

// P2.3: the errors, in their order: a bad amount is named ahead of a list that is too long, wherever it stands.
func TestFillBackErrors(t *testing.T) {
	tooMany := repeat(1, api.MaxList+1)
	for _, call := range []func(int, []int) ([]int, int, api.Errno){Fill, Back} {
		for _, bad := range outside {
			for _, l := range [][]int{{1}, nil, tooMany} {
				parts, rest, e := call(bad, l)
				checkError(t, "total", parts, rest, e, api.ErrArg)
			}
			for _, l := range [][]int{{bad}, {1, bad}, {bad, 1}, append(slices.Clone(tooMany), bad), append([]int{bad}, tooMany...)} {
				for _, whole := range []int{0, 1, most} {
					parts, rest, e := call(whole, l)
					checkError(t, "amount", parts, rest, e, api.ErrArg)
				}
			}
		}
		for _, whole := range []int{0, 1, most} {
			parts, rest, e := call(whole, tooMany)
			checkError(t, "too many", parts, rest, e, api.ErrLong)
		}
	}
}

// P2.4, P2.6
func TestFillAndBackRandom(t *testing.T) {
	r := rand.New(rand.NewSource(3))
	for range 3000 {
		caps := make([]int, r.Intn(10))
		for i := range caps {
			caps[i] = upTo(r, 100)
		}
		whole := r.Intn(600)
		paid, left, e := Fill(whole, caps)
		if e != api.OK || total(paid)+left != whole {
			t.Fatalf("Fill %d up to %v: %v, rest %d, error %d", whole, caps, paid, left, e)
		}
		back, rest, e := Back(whole-left, paid)
		checkRest(t, "all back", back, rest, e, paid, 0)
		some := r.Intn(whole + 2)
		back, rest, e = Back(some, paid)
		if e != api.OK || total(back)+rest != some {
			t.Fatalf("Back %d of %v: %v, rest %d, error %d", some, paid, back, rest, e)
		}
		for i := range back {
			if back[i] > paid[i] || back[i] > 0 && !slices.Equal(back[i+1:], paid[i+1:]) {
				t.Fatalf("Back %d of %v: %v", some, paid, back)
			}
		}
	}
}

func TestExamples(t *testing.T) {
	parts, e := Split(10, []int{1, 1, 1})
	checkParts(t, "Split", parts, e, []int{4, 3, 3})
	parts, e = Split(100, []int{1, 2, 4})
	checkParts(t, "Split", parts, e, []int{14, 29, 57})
	parts, e = Signed(-10, []int{1, 1, 1})
	checkParts(t, "Signed", parts, e, []int{-4, -3, -3})
	parts, rest, e := Capped(100, []int{1, 1, 2}, []int{10, 50, 100})
	checkRest(t, "Capped", parts, rest, e, []int{10, 30, 60}, 0)
	parts, rest, e = Capped(100, []int{1, 1, 2}, []int{10, 10, 10})
	checkRest(t, "Capped", parts, rest, e, []int{10, 10, 10}, 70)
	parts, rest, e = Fill(25, []int{10, 10, 10})
	checkRest(t, "Fill", parts, rest, e, []int{10, 10, 5}, 0)
	parts, rest, e = Back(7, []int{10, 10, 5})
	checkRest(t, "Back", parts, rest, e, []int{0, 2, 5}, 0)
	parts, e = Split(1000, []int{1, 1, 1}) // the first example of the whole
	checkParts(t, "Split", parts, e, []int{334, 333, 333})
}

// Arguments keep their elements and the memory behind them, and results do not lie in it.
func TestArgumentsAreKept(t *testing.T) {
	for _, last := range []int{3, 0, -1} { // -1: with an error
		weights := []int{5, 0, last, 77, 78}
		caps := []int{10, 20, 4, 87, 88}
		paid := []int{7, 9, last, 97, 98}
		memory := slices.Concat(weights, caps, paid)
		var results [][]int
		keep := func(parts []int) { results = append(results, parts) }
		parts, _ := Split(50, weights[:3])
		keep(parts)
		parts, _ = Signed(-50, weights[:3])
		keep(parts)
		parts, _, _ = Capped(50, weights[:3], caps[:3])
		keep(parts)
		parts, _, _ = Fill(15, paid[:3])
		keep(parts)
		parts, _, _ = Back(15, paid[:3])
		keep(parts)
		for i, parts := range results {
			parts = parts[:cap(parts)]
			for j := range parts {
				parts[j] = -1000 - i
			}
		}
		if now := slices.Concat(weights, caps, paid); !slices.Equal(now, memory) {
			t.Errorf("%v became %v", memory, now)
		}
	}
}
