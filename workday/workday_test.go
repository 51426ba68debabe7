package workday

import (
	"fmt"
	"math"
	"math/rand"
	"slices"
	"testing"
	"time"

	"contango/api"
	"contango/date"
)

// noDays are ints that are not days, from just beyond the bounds to the ends of int.
var noDays = []int{-1, -2, -7, api.MaxDay + 1, api.MaxDay + 2, api.MaxDay + 7, math.MinInt, math.MaxInt}

// far are numbers of business days that there are not.
var far = []int{math.MinInt, math.MinInt + 1, -1 << 32, -api.MaxDay - 1, -api.MaxDay, -60000, 60000, api.MaxDay, api.MaxDay + 1, 1 << 32, math.MaxInt - 1, math.MaxInt}

// badLists are lists that are no holidays, with their errors.
var badLists = []struct {
	hol []int
	e   api.Errno
}{
	{make([]int, api.MaxList+1), api.ErrLong},
	{slices.Repeat([]int{-1}, api.MaxList+1), api.ErrLong},
	{upFrom(0, api.MaxList+1), api.ErrLong},
	{upFrom(0, 3*api.MaxList), api.ErrLong},
	{[]int{-1}, api.ErrDate},
	{[]int{api.MaxDay + 1}, api.ErrDate},
	{[]int{math.MinInt}, api.ErrDate},
	{[]int{math.MaxInt}, api.ErrDate},
	{[]int{1, 2, api.MaxDay + 1}, api.ErrDate},
	{[]int{5, -1}, api.ErrDate}, // nor greater than the previous one
	{[]int{5, -1, 3}, api.ErrDate},
	{[]int{-1, 5, 5}, api.ErrDate},
	{[]int{api.MaxDay + 1, api.MaxDay + 1}, api.ErrDate},
	{[]int{5, 5}, api.ErrArg},
	{[]int{0, 0}, api.ErrArg},
	{[]int{5, 4}, api.ErrArg},
	{[]int{1, 2, 4, 3}, api.ErrArg},
	{[]int{5, 5, -1}, api.ErrArg},
	{[]int{api.MaxDay, api.MaxDay}, api.ErrArg},
	{[]int{api.MaxDay, 0}, api.ErrArg},
	{make([]int, api.MaxList), api.ErrArg},
	{append(upFrom(0, api.MaxList-1), 0), api.ErrArg},
	{append(upFrom(0, api.MaxList-1), -1), api.ErrDate},
}

// upFrom returns so many days, one after another.
func upFrom(first, count int) (days []int) {
	for i := range count {
		days = append(days, first+i)
	}
	return days
}

// randomDays returns at most so many days between two days, ascending.
func randomDays(r *rand.Rand, count, from, to int) (days []int) {
	for range count {
		days = append(days, from+r.Intn(to-from+1))
	}
	slices.Sort(days)
	return slices.Compact(days)
}

// lists are holidays of all kinds: none, few, many, as many as there can be, and at both ends of time.
func lists() [][]int {
	r := rand.New(rand.NewSource(1))
	sparse := randomDays(r, api.MaxList, 0, api.MaxDay)
	return [][]int{
		nil,
		{},
		{0}, // a Saturday
		{1}, // a Sunday
		{2},
		{0, 1, 2, 3, 7, 8, 9},
		{0, api.MaxDay},
		upFrom(0, api.MaxList),
		upFrom(2, api.MaxList),
		upFrom(40000, api.MaxList),
		upFrom(api.MaxDay-api.MaxList+1, api.MaxList),
		upFrom(api.MaxDay-40, 30),
		{2, 20, 30000, 30001, api.MaxDay - 1},
		randomDays(r, 300, 0, 700),
		randomDays(r, 300, api.MaxDay-700, api.MaxDay),
		sparse,
	}
}

// plain knows the business days one by one.
type plain struct {
	works []bool
	days  []int // the business days, ascending
}

func plainOf(hol []int) (p plain) {
	first := time.Date(2000, 1, 1, 0, 0, 0, 0, time.UTC)
	off := map[int]bool{}
	for _, day := range hol {
		off[day] = true
	}
	for day := range api.MaxDay + 1 {
		weekday := first.AddDate(0, 0, day).Weekday()
		works := weekday != time.Saturday && weekday != time.Sunday && !off[day]
		p.works = append(p.works, works)
		if works {
			p.days = append(p.days, day)
		}
	}
	return p
}

// add is Add by the list of business days.
func (p plain) add(day, n int) (to int, e api.Errno) {
	from, found := slices.BinarySearch(p.days, day) // the place of the first one that is not before the day
	place := from + n
	if n > 0 && !found {
		place--
	}
	if place < 0 || place >= len(p.days) {
		return 0, api.ErrDate
	}
	return p.days[place], api.OK
}

// next, before and on are Next, Before and On by going day by day.
func (p plain) next(day int) (to int, e api.Errno) {
	for to = day + 1; to <= api.MaxDay; to++ {
		if p.works[to] {
			return to, api.OK
		}
	}
	return 0, api.ErrDate
}

func (p plain) before(day int) (to int, e api.Errno) {
	for to = day - 1; to >= 0; to-- {
		if p.works[to] {
			return to, api.OK
		}
	}
	return 0, api.ErrDate
}

func (p plain) on(day int) (to int, e api.Errno) {
	if p.works[day] {
		return day, api.OK
	}
	return p.next(day)
}

// someDays returns days near both ends and near the holidays, and a few others.
func someDays(r *rand.Rand, hol []int) (days []int) {
	days = append(upFrom(0, 30), upFrom(api.MaxDay-30, 31)...)
	days = append(days, randomDays(r, 50, 0, api.MaxDay)...)
	if len(hol) > 0 {
		for _, holiday := range []int{hol[0], hol[len(hol)/2], hol[len(hol)-1], hol[r.Intn(len(hol))]} {
			for day := max(0, holiday-4); day <= min(api.MaxDay, holiday+4); day++ {
				days = append(days, day)
			}
		}
	}
	return days
}

// eachList calls f for every list of holidays, with its business days and some days.
func eachList(f func(hol []int, p plain, days []int)) {
	r := rand.New(rand.NewSource(2))
	for _, hol := range lists() {
		f(hol, plainOf(hol), someDays(r, hol))
	}
}

func check(t *testing.T, what string, n int, e api.Errno, wantN int, wantE api.Errno) {
	t.Helper()
	if n != wantN || e != wantE {
		t.Errorf("%s: %d, error %d; want %d, error %d", what, n, e, wantN, wantE)
	}
}

// P6.1
func TestCheck(t *testing.T) {
	for i, hol := range lists() {
		if e := Check(hol); e != api.OK {
			t.Errorf("list %d: error %d", i, e)
		}
	}
	for i, c := range badLists {
		if e := Check(c.hol); e != c.e {
			t.Errorf("list %d: error %d; want %d", i, e, c.e)
		}
	}
}

// P6.1: all other functions return the error of Check first, whatever else is wrong.
func TestBadListsFirst(t *testing.T) {
	for i, c := range badLists {
		for _, day := range append([]int{0, 2, 100}, noDays...) {
			what := fmt.Sprint("list ", i, ", day ", day)
			if ok, e := Works(c.hol, day); ok || e != c.e {
				t.Errorf("%s: Works is %t, error %d; want error %d", what, ok, e, c.e)
			}
			for _, call := range []func([]int, int) (int, api.Errno){Next, Before, On} {
				to, e := call(c.hol, day)
				check(t, what, to, e, 0, c.e)
			}
			for _, n := range []int{0, 1, -1, math.MaxInt, math.MinInt} {
				to, e := Add(c.hol, day, n)
				check(t, what, to, e, 0, c.e)
			}
			n, e := Count(c.hol, day, 100)
			check(t, what, n, e, 0, c.e)
			n, e = Count(c.hol, 100, day)
			check(t, what, n, e, 0, c.e)
		}
		for _, month := range [][2]int{{2000, 1}, {2000, 13}, {1999, 12}, {math.MaxInt, math.MinInt}} {
			day, e := Expiry(c.hol, month[0], month[1])
			check(t, fmt.Sprint("list ", i, ", Expiry of ", month), day, e, 0, c.e)
		}
	}
}

// P6.2 to P6.5: what is not a day.
func TestNoDays(t *testing.T) {
	for _, day := range noDays {
		for _, hol := range [][]int{nil, {2}, {0, api.MaxDay}, upFrom(0, api.MaxList)} {
			what := fmt.Sprint("day ", day)
			if ok, e := Works(hol, day); ok || e != api.ErrDate {
				t.Errorf("%s: Works is %t, error %d", what, ok, e)
			}
			for _, call := range []func([]int, int) (int, api.Errno){Next, Before, On} {
				to, e := call(hol, day)
				check(t, what, to, e, 0, api.ErrDate)
			}
			for _, n := range append([]int{0, 1, -1, 2, -2, 7, -7}, far...) {
				to, e := Add(hol, day, n)
				check(t, what, to, e, 0, api.ErrDate)
			}
			for _, other := range append([]int{0, 9, api.MaxDay}, noDays...) {
				n, e := Count(hol, day, other)
				check(t, what, n, e, 0, api.ErrDate)
				n, e = Count(hol, other, day)
				check(t, what, n, e, 0, api.ErrDate)
			}
		}
	}
}

// P6.2, P6.3: every day without holidays, and some days with each list of them.
func TestWorksNextBeforeOn(t *testing.T) {
	hold := func(hol []int, p plain, day int) {
		what := fmt.Sprint(len(hol), " holidays, day ", day)
		if ok, e := Works(hol, day); ok != p.works[day] || e != api.OK {
			t.Errorf("%s: Works is %t, error %d", what, ok, e)
		}
		to, e := Next(hol, day)
		want, wantE := p.next(day)
		check(t, what+", Next", to, e, want, wantE)
		to, e = Before(hol, day)
		want, wantE = p.before(day)
		check(t, what+", Before", to, e, want, wantE)
		to, e = On(hol, day)
		want, wantE = p.on(day)
		check(t, what+", On", to, e, want, wantE)
	}
	p := plainOf(nil)
	for day := range api.MaxDay + 1 {
		hold(nil, p, day)
	}
	eachList(func(hol []int, p plain, days []int) {
		for _, day := range days {
			hold(hol, p, day)
		}
	})
}

// P6.3: the ends of time.
func TestEnds(t *testing.T) {
	last := api.MaxDay // a Tuesday
	for _, c := range []struct {
		what    string
		call    func([]int, int) (int, api.Errno)
		hol     []int
		day, to int
		e       api.Errno
	}{
		{"Next", Next, nil, last - 1, last, api.OK},
		{"Next", Next, nil, last, 0, api.ErrDate},
		{"Next", Next, []int{last}, last - 1, 0, api.ErrDate},
		{"Next", Next, []int{last}, last - 2, last - 1, api.OK},
		{"Next", Next, []int{last - 1, last}, last - 4, 0, api.ErrDate},
		{"On", On, nil, last, last, api.OK},
		{"On", On, []int{last}, last, 0, api.ErrDate},
		{"On", On, []int{last - 1, last}, last - 3, 0, api.ErrDate},
		{"On", On, []int{last - 1}, last - 3, last, api.OK},
		{"Before", Before, nil, 3, 2, api.OK},
		{"Before", Before, nil, 2, 0, api.ErrDate},
		{"Before", Before, nil, 1, 0, api.ErrDate},
		{"Before", Before, nil, 0, 0, api.ErrDate},
		{"Before", Before, []int{2}, 3, 0, api.ErrDate},
		{"Before", Before, []int{2}, 4, 3, api.OK},
		{"Before", Before, []int{last - 1}, last, last - 4, api.OK},
	} {
		to, e := c.call(c.hol, c.day)
		check(t, fmt.Sprint(c.what, " of ", c.hol, c.day), to, e, c.to, c.e)
	}
}

// P6.4
func TestAdd(t *testing.T) {
	r := rand.New(rand.NewSource(3))
	eachList(func(hol []int, p plain, days []int) {
		for _, day := range days {
			steps := []int{0, 1, -1, 2, -2, 5, -5, 22, -23, 1000, -1000, r.Intn(60001) - 30000}
			// The first and the last business day that there are, and one more.
			at, found := slices.BinarySearch(p.days, day)
			toLast := len(p.days) - at
			if found {
				toLast--
			}
			steps = append(steps, -at, -at-1, 1-at, toLast, toLast+1, toLast-1)
			for _, n := range steps {
				to, e := Add(hol, day, n)
				want, wantE := p.add(day, n)
				check(t, fmt.Sprint(len(hol), " holidays, Add of ", day, " and ", n), to, e, want, wantE)
			}
		}
	})
}

// P6.4: n can be any int.
func TestAddFar(t *testing.T) {
	for _, hol := range lists() {
		for _, day := range []int{0, 2, 9, 40000, api.MaxDay - 1, api.MaxDay} {
			for _, n := range far {
				to, e := Add(hol, day, n)
				check(t, fmt.Sprint("Add of ", day, " and ", n), to, e, 0, api.ErrDate)
			}
		}
	}
}

// P6.4: the longest ways that there are.
func TestAddAll(t *testing.T) {
	count := len(plainOf(nil).days)
	to, e := Add(nil, 0, count)
	check(t, "all ahead", to, e, api.MaxDay, api.OK)
	to, e = Add(nil, 0, count+1)
	check(t, "one more ahead", to, e, 0, api.ErrDate)
	to, e = Add(nil, api.MaxDay, 1-count)
	check(t, "all back", to, e, 2, api.OK)
	to, e = Add(nil, api.MaxDay, -count)
	check(t, "one more back", to, e, 0, api.ErrDate)
}

// P6.5, P6.7: adjacent ranges add up.
func TestCount(t *testing.T) {
	eachList(func(hol []int, p plain, days []int) {
		upTo := make([]int, api.MaxDay+2) // how many business days are before a day
		for day, works := range p.works {
			upTo[day+1] = upTo[day]
			if works {
				upTo[day+1]++
			}
		}
		for i, from := range days {
			to := days[(i*37+11)%len(days)]
			for _, ends := range [][2]int{{from, from}, {from, to}, {to, from}, {0, from}, {from, api.MaxDay}, {0, api.MaxDay}, {from, max(0, from-1)}, {from, min(api.MaxDay, from+1)}} {
				want := max(0, upTo[ends[1]+1]-upTo[ends[0]])
				n, e := Count(hol, ends[0], ends[1])
				check(t, fmt.Sprint(len(hol), " holidays, Count of ", ends), n, e, want, api.OK)
			}
			if from < api.MaxDay {
				left, _ := Count(hol, 0, from)
				right, _ := Count(hol, from+1, api.MaxDay)
				check(t, fmt.Sprint("adjacent at ", from), left+right, api.OK, len(p.days), api.OK)
			}
		}
	})
}

// P6.6: all months.
func TestExpiry(t *testing.T) {
	fridays := []int{}
	eachList(func(hol []int, p plain, _ []int) {
		fridays = fridays[:0]
		for y := 2000; y <= 2199; y++ {
			for m := 1; m <= 12; m++ {
				friday := thirdFriday(y, m)
				fridays = append(fridays, friday)
				want, wantE := friday, api.OK
				if !p.works[friday] {
					want, wantE = p.before(friday)
				}
				day, e := Expiry(hol, y, m)
				check(t, fmt.Sprint(len(hol), " holidays, Expiry of ", y, " ", m), day, e, want, wantE)
			}
		}
	})
	for i, friday := range fridays { // each of them on a holiday, alone and after others
		for _, hol := range [][]int{{friday}, {friday - 1, friday}, upFrom(friday-4, 5), upFrom(friday-4, 9)} {
			want := friday - len(hol)
			if len(hol) >= 5 {
				want = friday - 7
			}
			day, e := Expiry(hol, 2000+i/12, i%12+1)
			check(t, fmt.Sprint("Expiry with holidays ", hol), day, e, want, api.OK)
		}
	}
}

// thirdFriday is the only Friday from the 15th to the 21st.
func thirdFriday(y, m int) int {
	d := 15
	for time.Date(y, time.Month(m), d, 0, 0, 0, 0, time.UTC).Weekday() != time.Friday {
		d++
	}
	day, _ := date.Of(y, m, d)
	return day
}

// P6.6: no such month, and no business day before.
func TestExpiryErrors(t *testing.T) {
	for _, month := range [][2]int{{2000, 0}, {2000, 13}, {2000, -1}, {1999, 12}, {2200, 1}, {math.MinInt, 1}, {math.MaxInt, 12}, {2000, math.MinInt}, {2000, math.MaxInt}} {
		for _, hol := range [][]int{nil, {20}, upFrom(0, api.MaxList)} {
			day, e := Expiry(hol, month[0], month[1])
			check(t, fmt.Sprint("Expiry of ", month), day, e, 0, api.ErrDate)
		}
	}
	for _, first := range []int{0, 2} {
		day, e := Expiry(upFrom(first, 21-first), 2000, 1)
		check(t, "no business day before", day, e, 0, api.ErrDate)
	}
	day, e := Expiry(upFrom(3, 18), 2000, 1)
	check(t, "one business day before", day, e, 2, api.OK)
}

// P6.7
func TestThereAndBack(t *testing.T) {
	r := rand.New(rand.NewSource(4))
	eachList(func(hol []int, p plain, days []int) {
		for _, day := range days {
			if next, e := Next(hol, day); e == api.OK && p.works[day] {
				back, e := Before(hol, next)
				check(t, fmt.Sprint("Before of Next of ", day), back, e, day, api.OK)
			}
			for _, n := range []int{1, -1, 3, -4, r.Intn(2001) - 1000} {
				to, e := Add(hol, day, n)
				if e != api.OK {
					continue
				}
				if p.works[day] {
					back, e := Add(hol, to, -n)
					check(t, fmt.Sprint("Add of ", day, " and ", n, " and back"), back, e, day, api.OK)
				}
				if n > 0 {
					count, e := Count(hol, day+1, to)
					check(t, fmt.Sprint("Count up to Add of ", day, " and ", n), count, e, n, api.OK)
				}
			}
		}
	})
}

// P6.1: a holiday on a Saturday or Sunday has no effect.
func TestHolidaysAtWeekends(t *testing.T) {
	hol := []int{}
	for day := 0; len(hol) < api.MaxList; day += 7 {
		hol = append(hol, day, day+1)
	}
	for day := range 4000 {
		ok, e := Works(hol, day)
		want, wantE := Works(nil, day)
		if ok != want || e != wantE {
			t.Errorf("Works of %d: %t, error %d", day, ok, e)
		}
		n, e := Count(hol, 0, day)
		wantN, wantE := Count(nil, 0, day)
		check(t, fmt.Sprint("Count up to ", day), n, e, wantN, wantE)
		n, e = Next(hol, day)
		wantN, wantE = Next(nil, day)
		check(t, fmt.Sprint("Next of ", day), n, e, wantN, wantE)
	}
}

func TestExamples(t *testing.T) {
	to, e := Next(nil, 0)
	check(t, "Next", to, e, 2, api.OK)
	to, e = Next([]int{2}, 0)
	check(t, "Next", to, e, 3, api.OK)
	if ok, e := Works(nil, 0); ok || e != api.OK {
		t.Errorf("Works: %t, error %d", ok, e)
	}
	to, e = Before(nil, 2)
	check(t, "Before", to, e, 0, api.ErrDate)
	to, e = Add(nil, 2, 5)
	check(t, "Add", to, e, 9, api.OK)
	to, e = Add(nil, 9, -5)
	check(t, "Add", to, e, 2, api.OK)
	n, e := Count(nil, 0, 9)
	check(t, "Count", n, e, 6, api.OK)
	day, e := Expiry(nil, 2000, 1)
	check(t, "Expiry", day, e, 20, api.OK)
	day, e = Expiry([]int{20}, 2000, 1)
	check(t, "Expiry", day, e, 19, api.OK)
}

// The holidays and the memory behind them are kept.
func TestHolidaysAreKept(t *testing.T) {
	memory := []int{2, 5, 9, 4, 4, -1}
	kept := slices.Clone(memory)
	hol := memory[:3]
	Check(hol)
	Works(hol, 5)
	Next(hol, 4)
	Before(hol, 6)
	On(hol, 5)
	Add(hol, 5, 10)
	Count(hol, 0, 20)
	Expiry(hol, 2000, 1)
	if !slices.Equal(memory, kept) {
		t.Errorf("the memory became %v", memory)
	}
}
