package words

import (
	"math"
	"math/big"
	"math/rand"
	"regexp"
	"slices"
	"strconv"
	"strings"
	"testing"

	"contango/api"
)

const most = api.MaxMoney

// edges are numbers at the bound, at the ends of int, at 0 and where the number of digits changes.
var edges = []int{0, 1, 5, 9, 10, 11, 12, 99, 100, 101, 120, 999, 1000, 1<<59 + 1, most - 1, most, most + 1, math.MaxInt - 1, math.MaxInt}

// bothSigns returns the numbers, those of the other sign, and the least int.
func bothSigns(l []int) (all []int) {
	for _, n := range l {
		all = append(all, n, -n)
	}
	return append(all, math.MinInt)
}

func within(n int) bool {
	return n >= -most && n <= most
}

func checkList(t *testing.T, what string, l []string, e api.Errno, want ...string) {
	t.Helper()
	if e != api.OK || !slices.Equal(l, want) {
		t.Errorf("%s: %q, error %d; want %q", what, l, e, want)
	}
}

func checkListError(t *testing.T, what string, l []string, e, want api.Errno) {
	t.Helper()
	if e != want || len(l) != 0 {
		t.Errorf("%s: %q, error %d; want error %d", what, l, e, want)
	}
}

func checkNumber(t *testing.T, what string, n int, e api.Errno, wantN int, wantE api.Errno) {
	t.Helper()
	if n != wantN || e != wantE {
		t.Errorf("%s: %d, error %d; want %d, error %d", what, n, e, wantN, wantE)
	}
}

// allTexts calls f for every string of at most so many bytes of an alphabet.
func allTexts(alphabet string, length int, f func(s string)) {
	texts := []string{""}
	for range length + 1 {
		var longer []string
		for _, s := range texts {
			f(s)
			for i := range len(alphabet) {
				longer = append(longer, s+alphabet[i:i+1])
			}
		}
		texts = longer
	}
}

// P3.1
func TestName(t *testing.T) {
	for _, s := range []string{"a", "z", "a1", "a0", "a9", "oil", "zzz", "abcdefghijkl", "a23456789012"} {
		if !Name(s) {
			t.Errorf("%q is a name", s)
		}
	}
	for _, s := range []string{"", "1", "1a", "0a", "A", "aB", "a-b", "a_b", "a b", " a", "a ", "a.", "a\n", "a\x00", "\u00e4", "a\u00e4", "abcdefghijklm", "a234567890123", strings.Repeat("a", 100000)} {
		if Name(s) {
			t.Errorf("%q is no name", s)
		}
	}
}

// P3.1: every byte, in the first, a middle and the last place.
func TestNameBytes(t *testing.T) {
	first := regexp.MustCompile(`^[a-z]$`)
	later := regexp.MustCompile(`^[a-z0-9]$`)
	for c := range 256 {
		s := string([]byte{byte(c)})
		if Name(s) != first.MatchString(s) || Name(s+"abcdefghijk") != first.MatchString(s) {
			t.Errorf("%q as the first byte", s)
		}
		if Name("a"+s+"b") != later.MatchString(s) || Name("abcdefghijk"+s) != later.MatchString(s) {
			t.Errorf("%q as a later byte", s)
		}
	}
}

// P3.2
func TestFields(t *testing.T) {
	for _, fields := range [][]string{{"a"}, {"a", "bc"}, {"a", "bc", "d"}, {"-1.20", "~!", "A_Z", "a.b"}, {"!"}, {"~"}} {
		l, e := Fields(strings.Join(fields, " "))
		checkList(t, "Fields", l, e, fields...)
	}
	l, e := Fields("")
	checkList(t, "the empty line", l, e)
	for _, s := range []string{" ", "  ", " a", "a ", "a  b", "a b  c", "a b ", "  a", "a  ", "a\tb", "a\nb", "a b\n", "\x00", "\x1f", "\x7f", "a \x7f", "a b\x80", "\xff a", "\u00e4"} {
		l, e = Fields(s)
		checkListError(t, strconv.Quote(s), l, e, api.ErrForm)
	}
}

// P3.2: every byte, alone and among others.
func TestFieldsBytes(t *testing.T) {
	for c := range 256 {
		s := string([]byte{byte(c)})
		for _, line := range []string{s, "ab " + s, s + " ab", "ab c" + s + "d ef"} {
			l, e := Fields(line)
			switch {
			case c > 32 && c < 127:
				checkList(t, strconv.Quote(line), l, e, strings.Split(line, " ")...)
			case c == 32 && line == "ab c d ef":
				checkList(t, strconv.Quote(line), l, e, "ab", "c", "d", "ef")
			default:
				checkListError(t, strconv.Quote(line), l, e, api.ErrForm)
			}
		}
	}
}

// P3.2: the longest line, and one byte more; ErrLong is named ahead of ErrForm.
func TestFieldsLong(t *testing.T) {
	longest := strings.Repeat("a", api.MaxLine)
	l, e := Fields(longest)
	checkList(t, "the longest field", l, e, longest)
	blanks := strings.Repeat("a ", api.MaxLine/2-1) + "aa"
	l, e = Fields(blanks)
	checkList(t, "the most fields", l, e, strings.Split(blanks, " ")...)
	l, e = Fields(longest[1:] + " ")
	checkListError(t, "a blank at the end of the longest line", l, e, api.ErrForm)
	for _, s := range []string{longest + "a", longest + " ", " " + longest, longest + "\n", strings.Repeat(" ", api.MaxLine+1), strings.Repeat("\x00", api.MaxText)} {
		l, e = Fields(s)
		checkListError(t, "a line that is too long", l, e, api.ErrLong)
	}
}

// P3.2
func TestJoin(t *testing.T) {
	for _, l := range [][]string{nil, {}, {""}, {"a"}, {"a", "b"}, {"a", "", "b"}, {"", ""}, {"", "", ""}, {" ", "  "}, {"a b", "c\nd", "\x00\xff"}, {strings.Repeat("x", 70000), "y"}} {
		if s := Join(l); s != strings.Join(l, " ") {
			t.Errorf("Join of %q: %q", l, s)
		}
	}
	many := slices.Repeat([]string{"abc", ""}, 200000)
	if Join(many) != strings.Join(many, " ") {
		t.Error("Join of many")
	}
}

// P3.2, P3.6: what Fields and Join undo of each other, on all short lines and on random ones.
func TestFieldsAndJoin(t *testing.T) {
	form := regexp.MustCompile(`^([!-~]+( [!-~]+)*)?$`)
	hold := func(line string) {
		l, e := Fields(line)
		if !form.MatchString(line) {
			checkListError(t, strconv.Quote(line), l, e, api.ErrForm)
		} else if e != api.OK || Join(l) != line || line != "" && !slices.Equal(l, strings.Split(line, " ")) {
			t.Errorf("%q: %q, error %d", line, l, e)
		}
	}
	allTexts("ab \x1f\x7f", 6, hold)
	r := rand.New(rand.NewSource(1))
	for range 2000 {
		fields := make([]string, 1+r.Intn(40))
		for i := range fields {
			for range 1 + r.Intn(11) {
				fields[i] += string(rune(33 + r.Intn(94)))
			}
		}
		l, e := Fields(Join(fields))
		checkList(t, "Fields of Join", l, e, fields...)
		hold(Join(fields))
	}
}

// P3.3
func TestInt(t *testing.T) {
	for s, want := range map[string]int{"0": 0, "7": 7, "-1": -1, "10": 10, "-12": -12, "1000000": 1000000, "1152921504606846975": most - 1, "1152921504606846976": most, "-1152921504606846976": -most} {
		n, e := Int(s)
		checkNumber(t, s, n, e, want, api.OK)
	}
	for _, s := range []string{"", "-", "--1", "-0", "00", "-00", "007", "-07", "01", "+1", "+0", " 1", "1 ", "1\n", "1.0", "1,000", "1_000", "0x1", "1e3", "1-", "1-2", "a", "1a", "a1", "\x00", "1\x00", "\u0661", "/", ":", "1/", "1:"} {
		n, e := Int(s)
		checkNumber(t, strconv.Quote(s), n, e, 0, api.ErrForm)
	}
	for _, s := range []string{"1152921504606846977", "1152921504606846979", "1152921504606846980", "1999999999999999999", "9223372036854775807", "9223372036854775808", "18446744073709551615", "18446744073709551616", "18446744073709551617", "99999999999999999999999", "1" + strings.Repeat("0", 64), strings.Repeat("9", 100000)} {
		n, e := Int(s)
		checkNumber(t, "too much", n, e, 0, api.ErrOver)
		n, e = Int("-" + s)
		checkNumber(t, "too much below 0", n, e, 0, api.ErrOver)
		for _, bad := range []string{"0" + s, "-0" + s, s + "a", s + " ", "--" + s, s + "-"} { // the form is named first
			n, e = Int(bad)
			checkNumber(t, "too much, not in form", n, e, 0, api.ErrForm)
		}
	}
}

// P3.3, P3.6: on all short strings Int accepts just what Text returns.
func TestIntForms(t *testing.T) {
	form := regexp.MustCompile(`^(0|-?[1-9][0-9]*)$`)
	allTexts("-+.0159 ", 5, func(s string) {
		n, e := Int(s)
		if !form.MatchString(s) {
			checkNumber(t, strconv.Quote(s), n, e, 0, api.ErrForm)
			return
		}
		want, _ := strconv.Atoi(s)
		checkNumber(t, s, n, e, want, api.OK)
		if Text(n) != s {
			t.Errorf("%q is formatted as %q", s, Text(n))
		}
	})
}

// P3.3, P3.6
func TestText(t *testing.T) {
	numbers := bothSigns(edges)
	r := rand.New(rand.NewSource(2))
	for range 20000 {
		n := int(r.Uint64()) >> r.Intn(64)
		numbers = append(numbers, n)
	}
	for _, n := range numbers {
		s := Text(n)
		if s != strconv.Itoa(n) {
			t.Errorf("%d: %q", n, s)
		}
		back, e := Int(s)
		if within(n) {
			checkNumber(t, s, back, e, n, api.OK)
		} else {
			checkNumber(t, s, back, e, 0, api.ErrOver)
		}
	}
}

// P3.4
func TestCents(t *testing.T) {
	for s, want := range map[string]int{"0.00": 0, "0.05": 5, "-0.05": -5, "-0.01": -1, "0.50": 50, "1.00": 100, "-1.20": -120, "10.09": 1009, "100.00": 10000, "11529215046068469.75": most - 1, "11529215046068469.76": most, "-11529215046068469.76": -most} {
		n, e := Cents(s)
		checkNumber(t, s, n, e, want, api.OK)
	}
	for _, s := range []string{"", "-", ".", "-.", "0", "1", "100", "1.", "1.2", "1.234", ".05", "-.05", ".00", "-0.00", "-00.00", "00.00", "00.05", "01.00", "-01.00", "+1.00", " 1.00", "1.00 ", "1.00\n", "1,00", "1.-2", "1.+2", "1. 2", "1.2 ", "--1.00", "1.a0", "1.0a", "a.00", "1a.00", "1..00", "1.00.00", "1.0.0", "1 000.00", "1/00", "1./0", "1.:0", "/.00", ":.00", "\u0661.00", "1.\u0661"} {
		n, e := Cents(s)
		checkNumber(t, strconv.Quote(s), n, e, 0, api.ErrForm)
	}
	for _, s := range []string{"11529215046068469.77", "11529215046068469.79", "11529215046068469.80", "11529215046068470.00", "92233720368547758.07", "92233720368547758.08", "184467440737095516.16", "184467440737095516.17", "1152921504606846976.00", "1" + strings.Repeat("0", 64) + ".00", strings.Repeat("9", 100000) + ".99"} {
		n, e := Cents(s)
		checkNumber(t, "too much", n, e, 0, api.ErrOver)
		n, e = Cents("-" + s)
		checkNumber(t, "too much below 0", n, e, 0, api.ErrOver)
		for _, bad := range []string{"0" + s, "-0" + s, s + "0", s[:len(s)-1], s[:len(s)-1] + "a", s[:len(s)-3], "--" + s} { // the form is named first
			n, e = Cents(bad)
			checkNumber(t, "too much, not in form", n, e, 0, api.ErrForm)
		}
	}
}

// P3.4, P3.6: on all short strings Cents accepts just what Money returns.
func TestCentsForms(t *testing.T) {
	form := regexp.MustCompile(`^-?(0|[1-9][0-9]*)\.[0-9][0-9]$`)
	allTexts("-+.0159", 6, func(s string) {
		n, e := Cents(s)
		if !form.MatchString(s) || s == "-0.00" {
			checkNumber(t, strconv.Quote(s), n, e, 0, api.ErrForm)
			return
		}
		want, _ := strconv.Atoi(strings.Replace(s, ".", "", 1))
		checkNumber(t, s, n, e, want, api.OK)
		if Money(n) != s {
			t.Errorf("%q is formatted as %q", s, Money(n))
		}
	})
}

// exactMoney formats cents as a quotient of numbers of any length.
func exactMoney(n int) string {
	return big.NewRat(int64(n), 100).FloatString(2)
}

// P3.4, P3.6
func TestMoney(t *testing.T) {
	for n, want := range map[int]string{0: "0.00", 5: "0.05", -5: "-0.05", 50: "0.50", 99: "0.99", 100: "1.00", -120: "-1.20", most: "11529215046068469.76", math.MaxInt: "92233720368547758.07", math.MinInt: "-92233720368547758.08"} {
		if s := Money(n); s != want {
			t.Errorf("%d: %q, want %q", n, s, want)
		}
	}
	numbers := bothSigns(edges)
	r := rand.New(rand.NewSource(3))
	for range 20000 {
		numbers = append(numbers, int(r.Uint64())>>r.Intn(64))
	}
	for _, n := range numbers {
		s := Money(n)
		if s != exactMoney(n) {
			t.Errorf("%d: %q, want %q", n, s, exactMoney(n))
		}
		back, e := Cents(s)
		if within(n) {
			checkNumber(t, s, back, e, n, api.OK)
		} else {
			checkNumber(t, s, back, e, 0, api.ErrOver)
		}
	}
}

// P3.5
func TestLines(t *testing.T) {
	for _, c := range []struct {
		s    string
		want []string
	}{
		{"", nil},
		{"\n", []string{""}},
		{"\n\n", []string{"", ""}},
		{"a", []string{"a"}},
		{"a\n", []string{"a"}},
		{"a\nb", []string{"a", "b"}},
		{"a\nb\n", []string{"a", "b"}},
		{"a\n\nb", []string{"a", "", "b"}},
		{"a\n\n", []string{"a", ""}},
		{"\na", []string{"", "a"}},
		{" \n ", []string{" ", " "}},
		{"\r\n\x00\xff\n\x0b\u2028\x85", []string{"\r", "\x00\xff", "\x0b\u2028\x85"}}, // nothing but byte 10 ends a line
	} {
		l, e := Lines(c.s)
		checkList(t, strconv.Quote(c.s), l, e, c.want...)
	}
}

// P3.5: no line but an empty last one is lost.
func TestLinesShort(t *testing.T) {
	allTexts("\na\r\xff", 6, func(s string) {
		l, e := Lines(s)
		want := strings.Split(s, "\n")
		if want[len(want)-1] == "" {
			want = want[:len(want)-1]
		}
		checkList(t, strconv.Quote(s), l, e, want...)
	})
}

// P3.5: the longest text, and one byte more.
func TestLinesLong(t *testing.T) {
	for _, c := range []string{"\n", "a", " ", "\xff"} {
		s := strings.Repeat(c, api.MaxText)
		l, e := Lines(s)
		if c == "\n" {
			checkList(t, "the most lines", l, e, make([]string, api.MaxText)...)
		} else {
			checkList(t, "the longest line", l, e, s)
		}
		for _, longer := range []string{s + "\n", "\n" + s, s + "b", s + s} {
			l, e = Lines(longer)
			checkListError(t, "a text that is too long", l, e, api.ErrLong)
		}
	}
}

func TestExamples(t *testing.T) {
	if !Name("a1") || Name("1a") || Name("") {
		t.Error("Name")
	}
	l, e := Fields("a bc")
	checkList(t, "a bc", l, e, "a", "bc")
	l, e = Fields("a  b")
	checkListError(t, "a  b", l, e, api.ErrForm)
	n, e := Int("-12")
	checkNumber(t, "-12", n, e, -12, api.OK)
	n, e = Int("007")
	checkNumber(t, "007", n, e, 0, api.ErrForm)
	n, e = Int("-0")
	checkNumber(t, "-0", n, e, 0, api.ErrForm)
	n, e = Cents("-1.20")
	checkNumber(t, "-1.20", n, e, -120, api.OK)
	n, e = Cents("1.2")
	checkNumber(t, "1.2", n, e, 0, api.ErrForm)
	if Text(-12) != "-12" || Money(5) != "0.05" {
		t.Error("Text, Money")
	}
	l, e = Lines("a\nb")
	checkList(t, "two lines", l, e, "a", "b")
	l, e = Lines("\n")
	checkList(t, "an empty line", l, e, "")
}

// The strings of a list and those behind it are kept, and a list that is returned is new.
func TestListsAreKept(t *testing.T) {
	memory := []string{"a", "b", "c", "d"}
	Join(memory[:2])
	if !slices.Equal(memory, []string{"a", "b", "c", "d"}) {
		t.Errorf("the memory became %q", memory)
	}
	for _, call := range []func(string) ([]string, api.Errno){Fields, func(s string) ([]string, api.Errno) { return Lines(strings.ReplaceAll(s, " ", "\n")) }} {
		first, _ := call("a b c")
		first[0] = "x"
		second, e := call("a b c")
		checkList(t, "the second call", second, e, "a", "b", "c")
	}
}
