package date

import (
	"fmt"
	"math"
	"math/big"
	"math/rand"
	"strings"
	"testing"
	"time"

	"contango/api"
)

// noDays are ints that are not days, from just beyond the bounds to the ends of int.
var noDays = []int{-1, -2, -365, api.MaxDay + 1, api.MaxDay + 2, api.MaxDay + 365, math.MinInt, math.MaxInt}

// far are ints that are no year, month, weekday or number of months.
var far = []int{math.MinInt, math.MinInt + 1, -1 << 32, -100000, 100000, 1 << 32, math.MaxInt - 1, math.MaxInt}

// at returns a date of the library's calendar, which is the same one.
func at(y, m, d int) time.Time {
	return time.Date(y, time.Month(m), d, 0, 0, 0, 0, time.UTC)
}

// eachDay calls f for every day, with its date.
func eachDay(f func(day int, date time.Time)) {
	date := at(2000, 1, 1)
	for day := range api.MaxDay + 1 {
		f(day, date)
		date = date.AddDate(0, 0, 1)
	}
}

func checkDay(t *testing.T, what string, day int, e api.Errno, wantDay int, wantE api.Errno) {
	t.Helper()
	if day != wantDay || e != wantE {
		t.Errorf("%s: %d, error %d; want %d, error %d", what, day, e, wantDay, wantE)
	}
}

// dayOf returns the day of a date that there is.
func dayOf(t *testing.T, s string) int {
	t.Helper()
	day, e := Parse(s)
	if e != api.OK {
		t.Fatalf("%s: error %d", s, e)
	}
	return day
}

// P5.1
func TestLeap(t *testing.T) {
	for y, want := range map[int]bool{2000: true, 2004: true, 2024: true, 2096: true, 2196: true, 2100: false, 1900: false, 2001: false, 2002: false, 2199: false, 0: true, -4: true, -1: false, -100: false, -400: true} {
		if Leap(y) != want {
			t.Errorf("year %d", y)
		}
	}
	for y := -2500; y <= 4500; y++ {
		if Leap(y) != (at(y, 12, 31).YearDay() == 366) {
			t.Errorf("year %d", y)
		}
	}
}

// P5.1: a year can be any int.
func TestLeapFar(t *testing.T) {
	divides := func(n, y int) bool {
		return new(big.Int).Mod(big.NewInt(int64(y)), big.NewInt(int64(n))).Sign() == 0
	}
	for i := range 1000 {
		for _, y := range []int{math.MinInt + i, math.MaxInt - i} {
			want := divides(4, y) && !divides(100, y) || divides(400, y)
			if Leap(y) != want {
				t.Errorf("year %d", y)
			}
			if (Days(y, 2) == 29) != want || Days(y, 1) != 31 || Days(y, 13) != 0 {
				t.Errorf("days of year %d", y)
			}
		}
	}
}

// P5.1
func TestDays(t *testing.T) {
	for y := -500; y <= 2500; y++ {
		for m := 1; m <= 12; m++ {
			if n := Days(y, m); n != at(y, m+1, 0).Day() {
				t.Errorf("%d-%d has %d days", y, m, n)
			}
		}
		for _, m := range append([]int{0, 13, 14, -1, -2, -12, 24}, far...) {
			if n := Days(y, m); n != 0 {
				t.Errorf("%d-%d has %d days", y, m, n)
			}
		}
	}
}

// P5.2, P5.3, P5.4, P5.7: every day has its date, weekday and text, and leads back.
func TestEveryDay(t *testing.T) {
	last := ""
	eachDay(func(day int, date time.Time) {
		y, m, d, e := Split(day)
		if y != date.Year() || m != int(date.Month()) || d != date.Day() || e != api.OK {
			t.Fatalf("day %d is %d-%d-%d, error %d", day, y, m, d, e)
		}
		back, e := Of(y, m, d)
		checkDay(t, "Of", back, e, day, api.OK)
		if n := Weekday(day); n != (int(date.Weekday())+6)%7+1 {
			t.Fatalf("day %d has weekday %d", day, n)
		}
		s := Print(day)
		if s != date.Format("2006-01-02") || s <= last {
			t.Fatalf("day %d is %q, after %q", day, s, last)
		}
		last = s
		back, e = Parse(s)
		checkDay(t, s, back, e, day, api.OK)
	})
	if last != "2199-12-31" {
		t.Errorf("the last day is %q", last)
	}
}

// P5.2: Of accepts just the dates that there are.
func TestOf(t *testing.T) {
	for y := 1998; y <= 2201; y++ {
		for m := -1; m <= 14; m++ {
			for d := -2; d <= 33; d++ {
				day, e := Of(y, m, d)
				date := at(y, m, d)
				if y < 2000 || y > 2199 || m != int(date.Month()) || d != date.Day() {
					checkDay(t, fmt.Sprint(y, m, d), day, e, 0, api.ErrDate)
				} else {
					checkDay(t, fmt.Sprint(y, m, d), day, e, int(date.Sub(at(2000, 1, 1)).Hours()/24), api.OK)
				}
			}
		}
	}
	for _, n := range far {
		for _, date := range [][3]int{{n, 1, 1}, {2000, n, 1}, {2000, 1, n}, {n, n, n}, {n, 2, 29}} {
			day, e := Of(date[0], date[1], date[2])
			checkDay(t, fmt.Sprint(date), day, e, 0, api.ErrDate)
		}
	}
}

// P5.2, P5.3, P5.4: what is not a day has no date, no weekday and no text.
func TestNoDays(t *testing.T) {
	for _, day := range noDays {
		if y, m, d, e := Split(day); y != 0 || m != 0 || d != 0 || e != api.ErrDate {
			t.Errorf("day %d is %d-%d-%d, error %d", day, y, m, d, e)
		}
		if Weekday(day) != 0 || Print(day) != "" {
			t.Errorf("day %d: weekday %d, %q", day, Weekday(day), Print(day))
		}
	}
}

// P5.4: what is not in form is ErrForm, also where there is no such date; what is in form and no date is ErrDate.
func TestParse(t *testing.T) {
	for _, s := range []string{"", "2", "-", "2000", "2000-01", "2000-1-1", "2000-01-1", "2000-1-01", "200-01-01", "2000-01-011", "02000-01-01", "2000-01-01 ", " 2000-01-01", "2000-01-01\n", "2000/01/01", "2000.01.01", "2000-01/01", "2000/01-01", "20000101", "2000010101", "2000--1-01", "2000-01--1", "-200-01-01", "+200-01-01", "2000-+1-01", "2000- 1-01", "2000-01- 1", "2000-01-0x", "20x0-01-01", "1999-12-3a", "9999-99-9", "2000-99-9a", "01-01-2000", "dddd-dd-dd", "\u0662000-01-0", strings.Repeat("2000-01-01", 1000)} {
		day, e := Parse(s)
		checkDay(t, s, day, e, 0, api.ErrForm)
	}
	for _, s := range []string{"0000-00-00", "0000-01-01", "1999-12-31", "1000-06-15", "2200-01-01", "9999-12-31", "9999-99-99", "2000-00-10", "2000-13-10", "2000-01-00", "2000-01-32", "2001-02-29", "2100-02-29", "2000-02-30", "2001-04-31", "2001-06-31", "2001-09-31", "2001-11-31", "2000-20-01", "2000-01-99", "2000-99-01"} {
		day, e := Parse(s)
		checkDay(t, s, day, e, 0, api.ErrDate)
	}
}

// P5.4: every byte in every place.
func TestParseBytes(t *testing.T) {
	for i := range len("2011-11-11") {
		for c := range 256 {
			b := []byte("2011-11-11")
			b[i] = byte(c)
			s := string(b)
			want := api.OK
			_, err := time.Parse("2006-01-02", s)
			switch {
			case (i == 4 || i == 7) != (c == '-'), c != '-' && (c < '0' || c > '9'):
				want = api.ErrForm
			case err != nil, s < "2000-01-01", s > "2199-12-31":
				want = api.ErrDate
			}
			day, e := Parse(s)
			if e != want || e != api.OK && day != 0 || e == api.OK && Print(day) != s {
				t.Errorf("%q: %d, error %d; want error %d", s, day, e, want)
			}
		}
	}
}

// P5.5: all weekdays of all months.
func TestNth(t *testing.T) {
	for y := 2000; y <= 2199; y++ {
		for m := 1; m <= 12; m++ {
			found := map[[2]int]int{} // days by their weekdays and by how many the month has had of these
			had := [8]int{}
			for d := 1; d <= at(y, m+1, 0).Day(); d++ {
				weekday := (int(at(y, m, d).Weekday())+6)%7 + 1
				had[weekday]++
				day, _ := Of(y, m, d)
				found[[2]int{weekday, had[weekday]}] = day
			}
			for weekday := 1; weekday <= 7; weekday++ {
				for n := 1; n <= 5; n++ {
					what := fmt.Sprint(y, m, weekday, n)
					day, e := Nth(y, m, weekday, n)
					if want, ok := found[[2]int{weekday, n}]; ok {
						checkDay(t, what, day, e, want, api.OK)
					} else {
						checkDay(t, what, day, e, 0, api.ErrDate)
					}
				}
			}
		}
	}
}

// P5.5: ErrArg is named ahead of ErrDate.
func TestNthErrors(t *testing.T) {
	for _, bad := range append([]int{-1, 0, 8, 9, 14}, far...) {
		for _, month := range [][2]int{{2024, 3}, {2024, 13}, {1999, 3}, {math.MaxInt, math.MinInt}} {
			day, e := Nth(month[0], month[1], bad, 1)
			checkDay(t, fmt.Sprint(month, "weekday", bad), day, e, 0, api.ErrArg)
			if bad < 1 || bad > 5 {
				day, e = Nth(month[0], month[1], 1, bad)
				checkDay(t, fmt.Sprint(month, "n", bad), day, e, 0, api.ErrArg)
			}
		}
	}
	for _, n := range []int{6, 7} { // weekdays, but no numbers of one
		day, e := Nth(2024, 3, 1, n)
		checkDay(t, fmt.Sprint("n", n), day, e, 0, api.ErrArg)
	}
	for _, month := range [][2]int{{2024, 0}, {2024, 13}, {2024, -1}, {1999, 12}, {2200, 1}, {math.MinInt, 1}, {math.MaxInt, 1}, {2024, math.MinInt}, {2024, math.MaxInt}} {
		for n := 1; n <= 5; n++ {
			day, e := Nth(month[0], month[1], n, n)
			checkDay(t, fmt.Sprint(month), day, e, 0, api.ErrDate)
		}
	}
}

// monthsLater is Months by the library's calendar.
func monthsLater(date time.Time, n int) (day int, e api.Errno) {
	first := at(date.Year(), int(date.Month())+n, 1)
	if first.Year() < 2000 || first.Year() > 2199 {
		return 0, api.ErrDate
	}
	d := min(date.Day(), first.AddDate(0, 1, -1).Day())
	return Of(first.Year(), int(first.Month()), d)
}

// P5.6, P5.8: from every day by a few months, and back.
func TestMonths(t *testing.T) {
	r := rand.New(rand.NewSource(1))
	eachDay(func(day int, date time.Time) {
		for _, n := range []int{0, 1, -1, 2, 11, -12, 13, 48, r.Intn(5001) - 2500} {
			what := fmt.Sprint("Months of ", Print(day), " and ", n)
			to, e := Months(day, n)
			wantTo, wantE := monthsLater(date, n)
			checkDay(t, what, to, e, wantTo, wantE)
			if e != api.OK {
				continue
			}
			back, e := Months(to, -n)
			if e != api.OK || back > day || back < day-3 || date.Day() <= 28 && back != day {
				t.Errorf("%s and back: %d, error %d", what, back, e)
			}
		}
	})
}

// P5.6: the last months that there are, and those beyond.
func TestMonthsBounds(t *testing.T) {
	for _, c := range []struct {
		from string
		n    int
		to   string // "": ErrDate
	}{
		{"2000-01-01", 0, "2000-01-01"},
		{"2000-01-01", 2399, "2199-12-01"},
		{"2000-01-01", 2400, ""},
		{"2000-01-31", -1, ""},
		{"2000-02-01", -1, "2000-01-01"},
		{"2000-12-31", -11, "2000-01-31"},
		{"2000-12-31", -12, ""},
		{"2199-12-31", 0, "2199-12-31"},
		{"2199-12-31", 1, ""},
		{"2199-12-01", 1, ""},
		{"2199-11-30", 1, "2199-12-30"},
		{"2199-12-31", -2399, "2000-01-31"},
		{"2199-12-31", -2398, "2000-02-29"},
		{"2199-12-31", -2400, ""},
		{"2024-02-29", 12, "2025-02-28"},
		{"2024-02-29", -12, "2023-02-28"},
		{"2024-02-29", 48, "2028-02-29"},
		{"2096-02-29", 48, "2100-02-28"},
		{"2024-03-31", -1, "2024-02-29"},
		{"2024-03-31", 1, "2024-04-30"},
		{"2024-12-15", 1, "2025-01-15"},
		{"2024-01-15", -13, "2022-12-15"},
	} {
		want, wantE := 0, api.ErrDate
		if c.to != "" {
			want, wantE = dayOf(t, c.to), api.OK
		}
		to, e := Months(dayOf(t, c.from), c.n)
		checkDay(t, fmt.Sprint(c), to, e, want, wantE)
	}
	for _, n := range far {
		for _, day := range []int{0, 1, 31, 40000, api.MaxDay} {
			to, e := Months(day, n)
			checkDay(t, fmt.Sprint(day, n), to, e, 0, api.ErrDate)
		}
	}
	for _, day := range noDays {
		for _, n := range append([]int{0, 1, -1, 12, -12}, far...) {
			to, e := Months(day, n)
			checkDay(t, fmt.Sprint(day, n), to, e, 0, api.ErrDate)
		}
	}
}

func TestExamples(t *testing.T) {
	day, e := Of(2000, 2, 29)
	checkDay(t, "Of", day, e, 59, api.OK)
	if y, m, d, e := Split(60); y != 2000 || m != 3 || d != 1 || e != api.OK {
		t.Errorf("Split: %d %d %d, error %d", y, m, d, e)
	}
	if Weekday(0) != 6 || Weekday(dayOf(t, "2000-01-03")) != 1 {
		t.Error("Weekday")
	}
	if Print(api.MaxDay) != "2199-12-31" {
		t.Error("Print")
	}
	day, e = Parse("2100-02-29")
	checkDay(t, "Parse", day, e, 0, api.ErrDate)
	day, e = Parse("2100-2-29")
	checkDay(t, "Parse", day, e, 0, api.ErrForm)
	day, e = Nth(2024, 3, 5, 3)
	checkDay(t, "Nth", day, e, dayOf(t, "2024-03-15"), api.OK)
	day, e = Months(dayOf(t, "2024-01-31"), 1)
	checkDay(t, "Months", day, e, dayOf(t, "2024-02-29"), api.OK)
}
