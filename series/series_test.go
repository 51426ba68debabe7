package series

import (
	"fmt"
	"math"
	"math/rand"
	"slices"
	"strings"
	"testing"
	"time"

	"contango/api"
)

const top = api.MaxPrice

// far are ints at the ends of int and of its halves.
var far = []int{math.MinInt, math.MinInt + 1, -1 << 32, 1 << 32, 1<<32 + 1, math.MaxInt - 1, math.MaxInt}

// noDays are ints that are not days.
var noDays = append([]int{-1, -2, api.MaxDay + 1, api.MaxDay + 2}, far...)

// noKinds are ints that are no kinds of series.
var noKinds = append([]int{0, 4, -1, 5}, far...)

var kinds = []int{api.Future, api.Call, api.Put}

// call and future are those of the chapter's examples.
func call() api.Series {
	return api.Series{Product: "oil", Kind: api.Call, Expiry: 9576, Strike: -50}
}

func future() api.Series {
	return api.Series{Product: "oil", Kind: api.Future, Expiry: 9576}
}

// market are products that may be, with different ticks and bounds.
func market() []api.Product {
	return []api.Product{
		{Name: "gas", Mult: 10, Tick: 3, Low: 30, High: 90},
		{Name: "gold", Cur: 1, Mult: 10, Tick: 1, Low: -top, High: top, Physical: true},
		{Name: "oil", Mult: 10, Tick: 5, Low: -100, High: 100},
	}
}

// wrongMarkets are lists of products that product.CheckAll does not accept, with its error.
func wrongMarkets() map[string]struct {
	l []api.Product
	e api.Errno
} {
	spoilt := func(spoil func(l []api.Product)) []api.Product {
		l := market()
		spoil(l)
		return l
	}
	return map[string]struct {
		l []api.Product
		e api.Errno
	}{
		"long":  {slices.Repeat(market(), 11), api.ErrLong},
		"name":  {spoilt(func(l []api.Product) { l[0].Name = "" }), api.ErrName},
		"rate":  {spoilt(func(l []api.Product) { l[2].Cur = 8 }), api.ErrRate},
		"mult":  {spoilt(func(l []api.Product) { l[2].Mult = 0 }), api.ErrArg},
		"tick":  {spoilt(func(l []api.Product) { l[0].Tick = 0 }), api.ErrTick},
		"price": {spoilt(func(l []api.Product) { l[0].Low = 31 }), api.ErrPrice},
		"there": {spoilt(func(l []api.Product) { l[0], l[2] = l[2], l[0] }), api.ErrThere},
		"twice": {spoilt(func(l []api.Product) { l[1] = l[2] }), api.ErrThere},
	}
}

// ladder are series in ascending order.
func ladder() []api.Series {
	return []api.Series{
		{Product: "", Kind: math.MaxInt, Expiry: math.MaxInt, Strike: math.MaxInt},
		{Product: "Oil"},
		{Product: "a", Kind: 9, Expiry: 9, Strike: 9},
		{Product: "a0"},
		{Product: "aa"},
		{Product: "b", Kind: math.MaxInt, Expiry: math.MinInt, Strike: math.MaxInt},
		{Product: "b", Kind: 3, Expiry: -1, Strike: 9},
		{Product: "b", Kind: math.MinInt, Expiry: 0, Strike: math.MaxInt},
		{Product: "b", Kind: 1, Expiry: 0, Strike: 5},
		{Product: "b", Kind: 2, Expiry: 0, Strike: math.MinInt},
		{Product: "b", Kind: 2, Expiry: 0, Strike: -1},
		{Product: "b", Kind: 2, Expiry: 0, Strike: 0},
		{Product: "b", Kind: 2, Expiry: 0, Strike: 10},
		{Product: "b", Kind: 2, Expiry: 0, Strike: math.MaxInt},
		{Product: "b", Kind: 3, Expiry: 0, Strike: -7},
		{Product: "b", Kind: math.MaxInt, Expiry: 0, Strike: -9},
		{Product: "b", Kind: 1, Expiry: 1, Strike: 0},
		{Product: "b", Kind: 1, Expiry: 10, Strike: 0},
		{Product: "b", Kind: math.MinInt, Expiry: math.MaxInt, Strike: math.MinInt},
		{Product: "b\x00"},
		{Product: "\xff"},
	}
}

// randomSeries returns one of few series, so that lists have duplicates.
func randomSeries(r *rand.Rand) api.Series {
	return api.Series{Product: []string{"", "a", "b", "ba"}[r.Intn(4)], Kind: r.Intn(5), Expiry: r.Intn(3), Strike: r.Intn(3) - 1}
}

func randomList(r *rand.Rand, n int) (l []api.Series) {
	for range n {
		l = append(l, randomSeries(r))
	}
	return l
}

// eachDay calls f for every day, with its date.
func eachDay(f func(day int, date time.Time)) {
	date := time.Date(2000, 1, 1, 0, 0, 0, 0, time.UTC)
	for day := range api.MaxDay + 1 {
		f(day, date)
		date = date.AddDate(0, 0, 1)
	}
}

func checkError(t *testing.T, what string, e, want api.Errno) {
	t.Helper()
	if e != want {
		t.Errorf("%s: error %d; want %d", what, e, want)
	}
}

func checkParse(t *testing.T, text string, want api.Series, wantE api.Errno) {
	t.Helper()
	if s, e := Parse(text); s != want || e != wantE {
		t.Errorf("%q: %v, error %d; want %v, error %d", text, s, e, want, wantE)
	}
}

func checkPrint(t *testing.T, s api.Series, want string) {
	t.Helper()
	if text := Print(s); text != want {
		t.Errorf("%v: %q; want %q", s, text, want)
	}
}

func checkList(t *testing.T, what string, l, want []api.Series) {
	t.Helper()
	if !slices.Equal(l, want) {
		t.Errorf("%s: %v; want %v", what, l, want)
	}
}

// P10.1
func TestCheck(t *testing.T) {
	for _, c := range []struct {
		s    api.Series
		want api.Errno
	}{
		{call(), api.OK},
		{future(), api.OK},
		{api.Series{Product: "gas", Kind: api.Future, Expiry: 0}, api.OK}, // 0 is no price of gas, but it is the strike of a future
		{api.Series{Product: "gas", Kind: api.Future, Expiry: api.MaxDay}, api.OK},
		{api.Series{Product: "gas", Kind: api.Future, Expiry: 5, Strike: 30}, api.ErrPrice},
		{api.Series{Product: "gas", Kind: api.Future, Expiry: 5, Strike: -1}, api.ErrPrice},
		{api.Series{Product: "gas", Kind: api.Put, Expiry: 5, Strike: 30}, api.OK},
		{api.Series{Product: "gas", Kind: api.Put, Expiry: 5, Strike: 90}, api.OK},
		{api.Series{Product: "gas", Kind: api.Put, Expiry: 5, Strike: 0}, api.ErrPrice},
		{api.Series{Product: "gas", Kind: api.Put, Expiry: 5, Strike: 27}, api.ErrPrice},
		{api.Series{Product: "gas", Kind: api.Put, Expiry: 5, Strike: 93}, api.ErrPrice},
		{api.Series{Product: "gas", Kind: api.Put, Expiry: 5, Strike: 31}, api.ErrPrice}, // product.Price says ErrTick
		{api.Series{Product: "gold", Kind: api.Call, Expiry: 5, Strike: 31}, api.OK},
		{api.Series{Product: "gold", Kind: api.Call, Expiry: 5, Strike: -top}, api.OK},
		{api.Series{Product: "gold", Kind: api.Call, Expiry: 5, Strike: top}, api.OK},
		{api.Series{Product: "gold", Kind: api.Call, Expiry: 5, Strike: top + 1}, api.ErrPrice},
		{api.Series{Product: "oil", Kind: api.Call, Expiry: 5, Strike: 0}, api.OK},
		{api.Series{Product: "oil", Kind: api.Put, Expiry: 5, Strike: -100}, api.OK},
		{api.Series{Product: "oil", Kind: api.Put, Expiry: 5, Strike: -105}, api.ErrPrice},
	} {
		checkError(t, fmt.Sprint(c.s), Check(market(), c.s), c.want)
	}
	for _, kind := range kinds {
		for _, strike := range far {
			s := api.Series{Product: "gold", Kind: kind, Expiry: 5, Strike: strike}
			checkError(t, fmt.Sprint(s), Check(market(), s), api.ErrPrice)
		}
	}
}

// P10.1: ErrSeries ahead of ErrDate ahead of ErrPrice.
func TestCheckOrder(t *testing.T) {
	for _, expiry := range append(slices.Clone(noDays), 0, api.MaxDay) {
		for _, strike := range append(slices.Clone(far), 0, 3) {
			for _, name := range []string{"", "ga", "gasx", "Gas", "gas ", "o", "zinc", strings.Repeat("gas", 10000)} {
				for _, kind := range append(slices.Clone(noKinds), kinds...) {
					s := api.Series{Product: name, Kind: kind, Expiry: expiry, Strike: strike}
					checkError(t, fmt.Sprint(s), Check(market(), s), api.ErrSeries)
				}
			}
			for _, kind := range noKinds {
				s := api.Series{Product: "oil", Kind: kind, Expiry: expiry, Strike: strike}
				checkError(t, fmt.Sprint(s), Check(market(), s), api.ErrSeries)
			}
		}
	}
	for _, kind := range kinds {
		for _, expiry := range noDays {
			for _, strike := range []int{0, 3, 5, math.MinInt} {
				s := api.Series{Product: "oil", Kind: kind, Expiry: expiry, Strike: strike}
				checkError(t, fmt.Sprint(s), Check(market(), s), api.ErrDate)
			}
		}
	}
}

// P10.1: the error of product.CheckAll is returned first, even if the fault is not in the series' product.
func TestCheckProducts(t *testing.T) {
	for what, c := range wrongMarkets() {
		for _, s := range []api.Series{call(), future(), {}, {Product: "oil", Kind: api.Put, Expiry: -1, Strike: 3}, {Product: "zinc", Kind: 1}} {
			checkError(t, fmt.Sprint(what, s), Check(c.l, s), c.e)
		}
	}
	for _, l := range [][]api.Product{nil, {}, market()[:2]} {
		checkError(t, "not among the products", Check(l, call()), api.ErrSeries)
	}
	checkError(t, "among the products", Check(market()[2:], call()), api.OK)
}

// P10.2, P10.7: any two of a list in ascending order.
func TestCompare(t *testing.T) {
	l := ladder()
	for i, a := range l {
		for j, b := range l {
			want := 0
			if i < j {
				want = -1
			} else if i > j {
				want = 1
			}
			if n := Compare(a, b); n != want {
				t.Errorf("%v and %v: %d; want %d", a, b, n, want)
			}
		}
	}
}

// P10.7: 0 for equal series only, the other sign when exchanged, transitive.
func TestCompareIsAnOrder(t *testing.T) {
	r := rand.New(rand.NewSource(107))
	for range 20000 {
		a, b, c := randomSeries(r), randomSeries(r), randomSeries(r)
		if r.Intn(2) == 0 { // a neighbour in one field
			b = a
			*[]*int{&b.Kind, &b.Expiry, &b.Strike}[r.Intn(3)] += r.Intn(3) - 1
		}
		n := Compare(a, b)
		if n < -1 || n > 1 || (n == 0) != (a == b) || Compare(b, a) != -n {
			t.Errorf("%v and %v: %d and %d", a, b, n, Compare(b, a))
		}
		if n <= 0 && Compare(b, c) <= 0 && Compare(a, c) != min(n, Compare(b, c)) {
			t.Errorf("%v, %v, %v: %d, %d, %d", a, b, c, n, Compare(b, c), Compare(a, c))
		}
	}
}

// P10.3
func TestPrint(t *testing.T) {
	checkPrint(t, call(), "oil.20260321.c-50")
	checkPrint(t, future(), "oil.20260321.f")
	checkPrint(t, api.Series{Product: "oil", Kind: api.Put, Expiry: 0, Strike: 0}, "oil.20000101.p0")
	checkPrint(t, api.Series{Product: "oil", Kind: api.Call, Expiry: api.MaxDay, Strike: 7}, "oil.21991231.c7")
	checkPrint(t, api.Series{Product: "oil", Kind: api.Put, Expiry: 59, Strike: math.MinInt}, "oil.20000229.p-9223372036854775808")
	checkPrint(t, api.Series{Product: "oil", Kind: api.Put, Expiry: 60, Strike: math.MaxInt}, "oil.20000301.p9223372036854775807")
}

// P10.3: the product is not checked, and the strike of a future is not printed.
func TestPrintAny(t *testing.T) {
	for _, name := range []string{"", ".", "A b", "a.b.c", "-", "a-b", "\xff\x00", strings.Repeat("a", 10000)} {
		checkPrint(t, api.Series{Product: name, Kind: api.Future, Expiry: 1}, name+".20000102.f")
		checkPrint(t, api.Series{Product: name, Kind: api.Put, Expiry: 1, Strike: -3}, name+".20000102.p-3")
	}
	for _, strike := range append(slices.Clone(far), 0, 1, -1, top+1) {
		checkPrint(t, api.Series{Product: "oil", Kind: api.Future, Expiry: 1, Strike: strike}, "oil.20000102.f")
	}
}

// P10.3: "" for a kind that is none or a day that is none.
func TestPrintNone(t *testing.T) {
	for _, kind := range noKinds {
		checkPrint(t, api.Series{Product: "oil", Kind: kind, Expiry: 9576}, "")
	}
	for _, kind := range append(slices.Clone(noKinds), kinds...) {
		for _, day := range noDays {
			checkPrint(t, api.Series{Product: "oil", Kind: kind, Expiry: day, Strike: 5}, "")
		}
	}
}

// P10.3, P10.4, P10.6: every day, printed and read.
func TestEveryDay(t *testing.T) {
	eachDay(func(day int, date time.Time) {
		digits := date.Format("20060102")
		for text, s := range map[string]api.Series{
			"oil." + digits + ".f":                    {Product: "oil", Kind: api.Future, Expiry: day},
			"a1." + digits + ".c" + fmt.Sprint(day):   {Product: "a1", Kind: api.Call, Expiry: day, Strike: day},
			"x." + digits + ".p" + fmt.Sprint(-day-1): {Product: "x", Kind: api.Put, Expiry: day, Strike: -day - 1},
			"a23456789012." + digits + ".p" + "0":     {Product: "a23456789012", Kind: api.Put, Expiry: day},
		} {
			checkPrint(t, s, text)
			checkParse(t, text, s, api.OK)
		}
	})
}

// P10.4: what is not in form, whatever else is wrong.
func TestParseForm(t *testing.T) {
	for _, text := range []string{
		"", ".", "..", "...", "oil", "oil.", "oil.20260321", "oil.20260321.", ".20260321.f", "oil..f", "oil.f", "20260321.f",
		"oil.20260321.f.", ".oil.20260321.f", "oil.20260321.f.f", "oil.20260321.c1.5", "oil..20260321.f", "oil.20260321..f", "a.oil.20260321.f",
		"Oil.20260321.f", "1oil.20260321.f", "o l.20260321.f", " oil.20260321.f", "abcdefghijklm.20260321.f", "\xc3\xb6l.20260321.f",
		"oil.2026321.f", "oil.202603211.f", "oil.020260321.f", "oil.2026032.f", "oil.2026-321.f", "oil.2026-3-1.f", "oil.2026-03-21.f", "oil.+2026032.f", "oil.-2026032.f", "oil.202603 1.f", "oil. 2026032.f", "oil.2026032x.f", "oil.x0260321.f", "oil.\xd9\xa2026032.f", "oil.f.20260321",
		"oil.20260321.f1", "oil.20260321.f0", "oil.20260321.f-50", "oil.20260321.ff", "oil.20260321.fc", "oil.20260321.f ", "oil.20260321.F", "oil.20260321.C1", "oil.20260321.P1", "oil.20260321.x1", "oil.20260321.1", "oil.20260321.-50", "oil.20260321. c1", "oil.20260321. f", "oil.20260321.\nf", "oil.20260321.f\n",
		"oil.20260231.f1", "oil.20260231.x", "Oil.20260231.f", "Oil.20260231.c", "oil.20260231.", "oil.20260231.c1.c1", "Oil.20260321.p99999999999999999999", "oil.2026321.p16777217",
		strings.Repeat(".", 100000), strings.Repeat("oil.20260321.f", 1000), strings.Repeat("o", 100000) + ".20260321.f", "oil." + strings.Repeat("2", 100000) + ".f",
	} {
		checkParse(t, text, api.Series{}, api.ErrForm)
	}
}

// P10.4: every byte in every place of the digits.
func TestParseDigits(t *testing.T) {
	for i := range dateDigits {
		for c := range 256 {
			digits := []byte("20111111")
			digits[i] = byte(c)
			date, err := time.Parse("20060102", string(digits))
			want := api.Series{Product: "oil", Kind: api.Future, Expiry: int(date.Sub(time.Date(2000, 1, 1, 0, 0, 0, 0, time.UTC)).Hours() / 24)}
			wantE := api.OK
			switch {
			case c < '0' || c > '9':
				want, wantE = api.Series{}, api.ErrForm
			case err != nil, date.Year() < 2000, date.Year() > 2199:
				want, wantE = api.Series{}, api.ErrDate
			}
			checkParse(t, "oil."+string(digits)+".f", want, wantE)
		}
	}
}

// P10.4: a date that is none is named ahead of a strike that is none, behind the form.
func TestParseDate(t *testing.T) {
	for _, digits := range []string{"20260231", "20260229", "21000229", "20260431", "20260001", "20261301", "20260100", "20260132", "19991231", "22000101", "00000000", "99999999", "00010101"} {
		for _, last := range []string{"f", "c1", "p-5", "c", "p", "cx", "c01", "p-0", "c16777217", "p99999999999999999999"} {
			checkParse(t, "oil."+digits+"."+last, api.Series{}, api.ErrDate)
		}
	}
	checkParse(t, "oil.20240229.f", api.Series{Product: "oil", Kind: api.Future, Expiry: 8825}, api.OK)
	checkParse(t, "oil.20000101.f", api.Series{Product: "oil", Kind: api.Future}, api.OK)
	checkParse(t, "oil.21991231.f", api.Series{Product: "oil", Kind: api.Future, Expiry: api.MaxDay}, api.OK)
}

// P10.4: the errors of words.Int, then ErrPrice.
func TestParseStrike(t *testing.T) {
	for letter, kind := range map[string]int{"c": api.Call, "p": api.Put} {
		for strike, want := range map[string]api.Errno{
			"": api.ErrForm, "-": api.ErrForm, "-0": api.ErrForm, "00": api.ErrForm, "01": api.ErrForm, "+1": api.ErrForm, " 1": api.ErrForm, "1 ": api.ErrForm, "x": api.ErrForm, "1x": api.ErrForm, "f": api.ErrForm, "c1": api.ErrForm, "--1": api.ErrForm, "0x1": api.ErrForm,
			"1152921504606846977": api.ErrOver, "-1152921504606846977": api.ErrOver, "9223372036854775808": api.ErrOver, "18446744073709551617": api.ErrOver, strings.Repeat("9", 10000): api.ErrOver,
			"1152921504606846976": api.ErrPrice, "-1152921504606846976": api.ErrPrice, "16777217": api.ErrPrice, "-16777217": api.ErrPrice, "4294967296": api.ErrPrice,
		} {
			checkParse(t, "oil.20260321."+letter+strike, api.Series{}, want)
		}
		for _, strike := range []int{0, 1, -1, 50, -50, top - 1, top, -top} {
			checkParse(t, fmt.Sprint("oil.20260321.", letter, strike), api.Series{Product: "oil", Kind: kind, Expiry: 9576, Strike: strike}, api.OK)
		}
	}
}

// P10.6: a series that can be printed, whose product is a name and whose strike is within MaxPrice, is parsed as it was.
func TestPrintedIsParsed(t *testing.T) {
	r := rand.New(rand.NewSource(106))
	for range 20000 {
		s := api.Series{Product: []string{"a", "oil", "a23456789012", "z9"}[r.Intn(4)], Kind: kinds[r.Intn(3)], Expiry: r.Intn(api.MaxDay + 1)}
		if s.Kind != api.Future {
			s.Strike = (r.Intn(2*top+1) - top) >> r.Intn(25)
		}
		checkParse(t, Print(s), s, api.OK)
	}
}

// P10.6: a parsed series is printed as the original string, however a text is changed.
func TestParsedIsPrinted(t *testing.T) {
	r := rand.New(rand.NewSource(1006))
	const letters = "0123456789-.oilfcpx +"
	accepted := 0
	for range 200000 {
		b := []byte(Print(api.Series{Product: "oil", Kind: kinds[r.Intn(3)], Expiry: r.Intn(api.MaxDay + 1), Strike: r.Intn(2001) - 1000}))
		for range r.Intn(3) {
			i := r.Intn(len(b))
			switch r.Intn(3) {
			case 0:
				b[i] = letters[r.Intn(len(letters))]
			case 1:
				b = slices.Delete(b, i, i+1)
			default:
				b = slices.Insert(b, i, letters[r.Intn(len(letters))])
			}
		}
		s, e := Parse(string(b))
		if e != api.OK {
			if s != (api.Series{}) {
				t.Errorf("%q: %v beside error %d", b, s, e)
			}
			continue
		}
		accepted++
		checkPrint(t, s, string(b))
	}
	if accepted < 50000 {
		t.Errorf("only %d texts are accepted", accepted)
	}
}

// P10.5
func TestLive(t *testing.T) {
	days := append([]int{-1, 0, 1, 9575, 9576, 9577, api.MaxDay, api.MaxDay + 1}, far...)
	for _, expiry := range days {
		for _, day := range days {
			for _, kind := range []int{api.Future, api.Put, 0} {
				if ok := Live(api.Series{Product: "oil", Kind: kind, Expiry: expiry, Strike: day}, day); ok != (day <= expiry) {
					t.Errorf("expiry %d, day %d: %t", expiry, day, ok)
				}
			}
		}
	}
}

// P10.5
func TestSort(t *testing.T) {
	checkList(t, "none", Sort(nil), nil)
	checkList(t, "an empty list", Sort([]api.Series{}), nil)
	checkList(t, "the examples", Sort([]api.Series{call(), future(), call()}), []api.Series{future(), call()})
	checkList(t, "ascending", Sort(ladder()), ladder())
	checkList(t, "one, often", Sort(slices.Repeat([]api.Series{call()}, 3*api.MaxList)), []api.Series{call()})
	r := rand.New(rand.NewSource(105))
	for range 100 {
		l := append(ladder(), ladder()...)
		r.Shuffle(len(l), func(i, j int) { l[i], l[j] = l[j], l[i] })
		checkList(t, "shuffled", Sort(l), ladder())
	}
}

// P10.5: each element of a result is greater than the previous one, and it has just the series of the list.
func TestSortRandom(t *testing.T) {
	r := rand.New(rand.NewSource(1005))
	for range 2000 {
		l := randomList(r, r.Intn(100))
		out := Sort(l)
		set := map[api.Series]bool{}
		for _, s := range l {
			set[s] = true
		}
		for i, s := range out {
			if !set[s] || i > 0 && Compare(out[i-1], s) != -1 {
				t.Fatalf("%v: %v", l, out)
			}
		}
		if len(out) != len(set) {
			t.Fatalf("%v: %v", l, out)
		}
	}
}

// P10.5
func TestPlace(t *testing.T) {
	for i, s := range ladder() {
		if n, ok := Place(ladder(), s); n != i || !ok {
			t.Errorf("%v: %d, %t; want %d", s, n, ok, i)
		}
		if n, ok := Place(append(ladder(), ladder()...), s); n != i || !ok {
			t.Errorf("%v, twice: %d, %t; want %d", s, n, ok, i)
		}
	}
	if n, ok := Place(nil, api.Series{}); n != 0 || ok {
		t.Errorf("in no series: %d, %t", n, ok)
	}
	l := []api.Series{future(), call(), future()} // not sorted, with duplicates
	for _, s := range []api.Series{
		{},
		{Product: "oi", Kind: api.Call, Expiry: 9576, Strike: -50},
		{Product: "oil", Kind: api.Put, Expiry: 9576, Strike: -50},
		{Product: "oil", Kind: api.Call, Expiry: 9577, Strike: -50},
		{Product: "oil", Kind: api.Call, Expiry: 9576, Strike: 50},
		{Product: "oil", Kind: api.Future, Expiry: 9576, Strike: 1},
	} {
		if n, ok := Place(l, s); n != 0 || ok {
			t.Errorf("%v: %d, %t", s, n, ok)
		}
	}
	if n, ok := Place(l, future()); n != 0 || !ok {
		t.Errorf("the first of two: %d, %t", n, ok)
	}
	if n, ok := Place([]api.Series{call(), future(), future()}, future()); n != 1 || !ok {
		t.Errorf("the second, twice: %d, %t", n, ok)
	}
}

// P10.5: in the order of the list, as often as they are there.
func TestOf(t *testing.T) {
	other := api.Series{Product: "oilx", Kind: api.Future, Expiry: 3}
	l := []api.Series{call(), other, future(), {Product: "gas"}, call(), {}, {Product: "Oil"}}
	for name, want := range map[string][]api.Series{
		"oil": {call(), future(), call()}, "oilx": {other}, "gas": {{Product: "gas"}}, "": {{}}, "Oil": {{Product: "Oil"}},
		"oi": nil, "OIL": nil, "oil ": nil, "a": nil, strings.Repeat("o", 100000): nil,
	} {
		checkList(t, name, Of(l, name), want)
	}
	checkList(t, "of none", Of(nil, "oil"), nil)
	checkList(t, "of many", Of(slices.Repeat([]api.Series{call(), other}, 3*api.MaxList), "oil"), slices.Repeat([]api.Series{call()}, 3*api.MaxList))
}

// P10.1, P10.5: arguments stay as they are, the memory behind them too, and results are new memory.
func TestArguments(t *testing.T) {
	r := rand.New(rand.NewSource(15))
	all := append([]api.Series{future(), call(), call()}, randomList(r, 60)...)
	for _, length := range []int{0, 1, 2, 3, 40} {
		l := slices.Clone(all)
		sorted, of := Sort(l[:length]), Of(l[:length], "oil")
		Place(l[:length], call())
		checkList(t, "after the calls", l, all)
		clear(sorted[:cap(sorted)])
		clear(of[:cap(of)])
		checkList(t, "after the results were cleared", l, all)
	}
	products := market()
	Check(products[:1], call())
	Check(products[:2], call())
	if !slices.Equal(products, market()) {
		t.Errorf("%v", products)
	}
}

func TestExamples(t *testing.T) {
	checkPrint(t, api.Series{Product: "oil", Kind: api.Call, Expiry: 9576, Strike: -50}, "oil.20260321.c-50")
	checkParse(t, "oil.20260321.f", api.Series{Product: "oil", Kind: api.Future, Expiry: 9576, Strike: 0}, api.OK)
	checkParse(t, "oil.20260231.f", api.Series{}, api.ErrDate)
	checkParse(t, "oil.20260321.c", api.Series{}, api.ErrForm)
	checkParse(t, "oil.2026321.f", api.Series{}, api.ErrForm)
	if n := Compare(call(), future()); n != 1 {
		t.Errorf("Compare: %d", n)
	}
}
