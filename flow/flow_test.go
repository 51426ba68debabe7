package flow

import (
	"cmp"
	"fmt"
	"math"
	"math/big"
	"math/rand"
	"slices"
	"strings"
	"testing"

	"contango/api"
)

// most is the greatest amount that fits.
const most = api.MaxMoney

// noCurs are ints that are no currency.
var noCurs = []int{-1, api.MaxCur, api.MaxCur + 1, -api.MaxCur, 1 << 32, -1 << 32, math.MinInt, math.MaxInt}

// misfits are ints that do not fit.
var misfits = []int{most + 1, -most - 1, math.MaxInt, math.MinInt}

// noNames are strings that are no names.
var noNames = []string{"", "A", "1a", "a b", "a.", "a-", "abcdefghijklm", "\xc3\xa4", "a\x00", " a", strings.Repeat("a", 100000)}

// f returns a flow.
func f(member string, cur, cents, why int) api.Flow {
	return api.Flow{Member: member, Cur: cur, Cents: cents, Why: why}
}

// example returns the flows of the chapter's example.
func example() []api.Flow {
	return []api.Flow{f("a", 0, 5, api.WhyVary), f("b", 0, -3, api.WhyFee), f("a", 0, -2, api.WhyFee), f("a", 1, 4, 0)}
}

// guarded returns flows with memory beyond their end, and a function that reports whether nothing of both has changed.
func guarded(l []api.Flow) (given []api.Flow, unchanged func() bool) {
	whole := append(slices.Clone(l), f("beyond", 1, 7, 3), f("beyond", 2, -7, 4))
	copied := slices.Clone(whole)
	return whole[:len(l)], func() bool { return slices.Equal(whole, copied) }
}

// short returns what a message tells of flows.
func short(l []api.Flow) string {
	if len(l) > 12 {
		return fmt.Sprint(l[:12], " and ", len(l)-12, " more")
	}
	return fmt.Sprint(l)
}

func checkError(t *testing.T, l []api.Flow, want api.Errno) {
	t.Helper()
	given, unchanged := guarded(l)
	if e := Check(given); e != want {
		t.Errorf("Check of %s: error %d; want %d", short(l), e, want)
	}
	if !unchanged() {
		t.Errorf("Check of %s: the argument has changed", short(l))
	}
}

func checkNet(t *testing.T, l []api.Flow, wantError api.Errno, want ...api.Flow) {
	t.Helper()
	given, unchanged := guarded(l)
	out, e := Net(given)
	if !slices.Equal(out, want) || e != wantError {
		t.Errorf("Net of %s: %s, error %d; want %s, error %d", short(l), short(out), e, short(want), wantError)
	}
	overwrite(out)
	if !unchanged() {
		t.Errorf("Net of %s: the argument has changed", short(l))
	}
}

// overwrite writes to a result and beyond its end, so that what shares its memory changes too.
func overwrite(out []api.Flow) {
	for i := range out {
		out[i] = f("changed", 3, 9, 9)
	}
	_ = append(out, f("appended", 3, 9, 9))
}

func checkSum(t *testing.T, l []api.Flow, cur, want int, wantError api.Errno) {
	t.Helper()
	given, unchanged := guarded(l)
	n, e := Sum(given, cur)
	if n != want || e != wantError {
		t.Errorf("Sum of %d of %s: %d, error %d; want %d, error %d", cur, short(l), n, e, want, wantError)
	}
	if !unchanged() {
		t.Errorf("Sum of %s: the argument has changed", short(l))
	}
}

func checkOf(t *testing.T, l []api.Flow, member string, cur, want int, wantError api.Errno) {
	t.Helper()
	given, unchanged := guarded(l)
	n, e := Of(given, member, cur)
	if n != want || e != wantError {
		t.Errorf("Of %q in %d of %s: %d, error %d; want %d, error %d", member, cur, short(l), n, e, want, wantError)
	}
	if !unchanged() {
		t.Errorf("Of of %s: the argument has changed", short(l))
	}
}

func checkZero(t *testing.T, l []api.Flow, want bool) {
	t.Helper()
	given, unchanged := guarded(l)
	if ok := Zero(given); ok != want {
		t.Errorf("Zero of %s: %t", short(l), ok)
	}
	if !unchanged() {
		t.Errorf("Zero of %s: the argument has changed", short(l))
	}
}

// checkAll holds that Check, Net, Sum and Of return an error, whatever they are asked for, and that Zero is false.
func checkAll(t *testing.T, l []api.Flow, want api.Errno) {
	t.Helper()
	checkError(t, l, want)
	checkNet(t, l, want)
	for _, cur := range append(noCurs, 0, 1, api.MaxCur-1) {
		checkSum(t, l, cur, 0, want)
		for _, member := range []string{"a", "", "?"} {
			checkOf(t, l, member, cur, 0, want)
		}
	}
	checkZero(t, l, false)
}

// P22.1: what may be, up to the bounds.
func TestCheck(t *testing.T) {
	checkError(t, nil, api.OK)
	checkError(t, []api.Flow{}, api.OK)
	checkError(t, example(), api.OK)
	for _, name := range []string{"a", "z", "a1", "abcdefghijkl", "z00000000009"} {
		checkError(t, []api.Flow{f(name, 0, 1, 1)}, api.OK)
	}
	for cur := range api.MaxCur {
		checkError(t, []api.Flow{f("a", cur, 1, 1)}, api.OK)
	}
	for _, cents := range []int{0, 1, -1, most - 1, most, -most + 1, -most} {
		checkError(t, []api.Flow{f("a", 0, cents, 1)}, api.OK)
	}
	for _, why := range []int{0, 1, 12, 13, -1, math.MinInt, math.MaxInt} { // can be any number
		checkError(t, []api.Flow{f("a", 0, 1, why)}, api.OK)
	}
	checkError(t, slices.Repeat([]api.Flow{f("a", 0, 1, 1)}, api.MaxList), api.OK)
	checkError(t, slices.Repeat([]api.Flow{f("a", 0, most, 1)}, api.MaxList), api.OK)
}

// P22.1: a fault is found in whatever place it is, and Net, Sum and Of return its error first.
func TestCheckErrors(t *testing.T) {
	faults := map[api.Errno][]api.Flow{}
	for _, name := range noNames {
		faults[api.ErrName] = append(faults[api.ErrName], f(name, 0, 1, 1))
	}
	for _, cur := range noCurs {
		faults[api.ErrRate] = append(faults[api.ErrRate], f("a", cur, 1, 1))
	}
	for _, cents := range misfits {
		faults[api.ErrArg] = append(faults[api.ErrArg], f("a", 0, cents, 1))
	}
	for want, l := range faults {
		for _, bad := range l {
			checkAll(t, []api.Flow{bad}, want)
			checkAll(t, []api.Flow{bad, f("a", 0, 1, 1)}, want)
			checkAll(t, []api.Flow{f("a", 0, 1, 1), f("b", 1, 2, 2), bad}, want)
			full := slices.Repeat([]api.Flow{f("a", 0, 1, 1)}, api.MaxList)
			full[api.MaxList-1] = bad
			checkError(t, full, want)
		}
	}
	for _, n := range []int{api.MaxList + 1, api.MaxList + 2, 2 * api.MaxList, 5000} {
		checkAll(t, slices.Repeat([]api.Flow{f("a", 0, 1, 1)}, n), api.ErrLong)
	}
}

// P22.1: the number of flows first, then flow by flow; of one the name, the currency, the amount.
func TestCheckOrder(t *testing.T) {
	name, cur, cents := f("A", 0, 1, 1), f("a", -1, 1, 1), f("a", 0, most+1, 1)
	for _, c := range []struct {
		l    []api.Flow
		want api.Errno
	}{
		{[]api.Flow{f("A", -1, most+1, 1)}, api.ErrName}, {[]api.Flow{f("A", 0, most+1, 1)}, api.ErrName}, {[]api.Flow{f("A", -1, 1, 1)}, api.ErrName},
		{[]api.Flow{f("a", -1, most+1, 1)}, api.ErrRate},
		{[]api.Flow{name, cur, cents}, api.ErrName}, {[]api.Flow{cur, name, cents}, api.ErrRate}, {[]api.Flow{cents, name, cur}, api.ErrArg},
		{[]api.Flow{cents, cur, name}, api.ErrArg}, {[]api.Flow{cur, cents, name}, api.ErrRate},
		{make([]api.Flow, api.MaxList+1), api.ErrLong}, {slices.Repeat([]api.Flow{cents}, api.MaxList+1), api.ErrLong},
		{make([]api.Flow, api.MaxList), api.ErrName},
	} {
		checkAll(t, c.l, c.want)
	}
	// Ahead of what Net itself may return.
	checkAll(t, []api.Flow{f("a", 0, most, 1), f("a", 0, most, 1), cents}, api.ErrArg)
}

// P22.2
func TestNet(t *testing.T) {
	for _, c := range []struct{ l, want []api.Flow }{
		{nil, nil},
		{example(), []api.Flow{f("a", 0, 3, 0), f("a", 1, 4, 0), f("b", 0, -3, 0)}},
		{[]api.Flow{f("a", 0, 5, 7)}, []api.Flow{f("a", 0, 5, 0)}},
		{[]api.Flow{f("a", 0, 0, 7)}, nil},
		{[]api.Flow{f("a", 0, 5, 1), f("a", 0, -5, 2)}, nil},
		{[]api.Flow{f("a", 0, 5, 1), f("a", 1, -5, 1)}, []api.Flow{f("a", 0, 5, 0), f("a", 1, -5, 0)}},
		{[]api.Flow{f("a", 0, 5, 1), f("b", 0, -5, 1)}, []api.Flow{f("a", 0, 5, 0), f("b", 0, -5, 0)}},
		{[]api.Flow{f("a", 0, 1, 1), f("a", 0, 2, 1), f("a", 0, 4, -8), f("a", 0, -20, math.MaxInt)}, []api.Flow{f("a", 0, -13, 0)}},
		// By member, byte by byte, and then by currency.
		{[]api.Flow{f("b", 0, 1, 0), f("a1", 0, 2, 0), f("a", 0, 3, 0), f("aa", 0, 4, 0), f("a10", 0, 5, 0), f("a9", 0, 6, 0)}, []api.Flow{f("a", 0, 3, 0), f("a1", 0, 2, 0), f("a10", 0, 5, 0), f("a9", 0, 6, 0), f("aa", 0, 4, 0), f("b", 0, 1, 0)}},
		{[]api.Flow{f("b", 7, 1, 0), f("a", 7, 2, 0), f("b", 0, 3, 0), f("a", 3, 4, 0), f("a", 0, 5, 0), f("b", 3, 6, 0)}, []api.Flow{f("a", 0, 5, 0), f("a", 3, 4, 0), f("a", 7, 2, 0), f("b", 0, 3, 0), f("b", 3, 6, 0), f("b", 7, 1, 0)}},
		{[]api.Flow{f("b", 1, 1, 0), f("a", 2, 9, 0), f("b", 1, -1, 0), f("b", 2, 3, 0)}, []api.Flow{f("a", 2, 9, 0), f("b", 2, 3, 0)}},
	} {
		checkNet(t, c.l, api.OK, c.want...)
	}
	var l, want []api.Flow
	for i := range api.MaxList {
		l = append(l, f(fmt.Sprintf("m%04d", api.MaxList-1-i/8), 7-i%8, i+1, i))
		want = append(want, f(fmt.Sprintf("m%04d", api.MaxList-1-i/8), 7-i%8, i+1, 0))
	}
	slices.Reverse(want)
	checkNet(t, l, api.OK, want...)
}

// P22.2: totals are exact, whatever their parts are.
func TestNetOver(t *testing.T) {
	up, down, cent := f("a", 0, most, 1), f("a", 0, -most, 1), f("a", 0, 1, 1)
	checkNet(t, []api.Flow{up}, api.OK, f("a", 0, most, 0))
	checkNet(t, []api.Flow{down}, api.OK, f("a", 0, -most, 0))
	checkNet(t, []api.Flow{up, cent}, api.ErrOver)
	checkNet(t, []api.Flow{down, f("a", 0, -1, 1)}, api.ErrOver)
	checkNet(t, []api.Flow{up, cent, f("a", 0, -1, 2)}, api.OK, f("a", 0, most, 0))
	checkNet(t, []api.Flow{up, up, down}, api.OK, f("a", 0, most, 0))
	checkNet(t, []api.Flow{up, f("a", 1, most, 1), f("b", 0, most, 1)}, api.OK, f("a", 0, most, 0), f("a", 1, most, 0), f("b", 0, most, 0))
	for _, n := range []int{2, 7, 8, 16, 32, 512, 1024} { // 16 times MaxMoney is 0 in 64 bits
		checkNet(t, slices.Repeat([]api.Flow{up}, n), api.ErrOver)
		checkNet(t, slices.Repeat([]api.Flow{down}, n), api.ErrOver)
		checkSum(t, slices.Repeat([]api.Flow{up}, n), 0, 0, api.ErrOver)
		checkOf(t, slices.Repeat([]api.Flow{down}, n), "a", 0, 0, api.ErrOver)
		checkZero(t, slices.Repeat([]api.Flow{up}, n), false)
	}
	half := slices.Repeat([]api.Flow{up}, api.MaxList/2)
	other := slices.Repeat([]api.Flow{down}, api.MaxList/2)
	checkNet(t, slices.Concat(half, other), api.OK)
	checkNet(t, slices.Concat(other[1:], half), api.OK, f("a", 0, most, 0))
	checkZero(t, slices.Concat(half, other), true)
	checkZero(t, slices.Concat(other, half), true)
	// The place of a total that is too great does not matter.
	for _, member := range []string{"a", "m", "z"} {
		for _, cur := range []int{0, 3, 7} {
			l := []api.Flow{f("m", 3, 1, 1), f(member, cur, most, 1), f("m", 5, 2, 1), f(member, cur, most, 1)}
			checkNet(t, l, api.ErrOver)
		}
	}
}

// P22.2
func TestSum(t *testing.T) {
	for cur, want := range []int{0, 4, 0, 0, 0, 0, 0, 0} {
		checkSum(t, example(), cur, want, api.OK)
		checkSum(t, nil, cur, 0, api.OK)
	}
	checkSum(t, example()[:3], 0, 0, api.OK)
	checkSum(t, example()[:2], 0, 2, api.OK)
	for _, cur := range noCurs {
		checkSum(t, example(), cur, 0, api.ErrRate)
		checkSum(t, nil, cur, 0, api.ErrRate)
		checkSum(t, []api.Flow{f("a", 0, most, 1), f("b", 0, most, 1)}, cur, 0, api.ErrRate)
	}
	// Of all members, and of no other currency.
	l := []api.Flow{f("a", 0, most, 1), f("b", 0, most, 2), f("c", 0, -most, 3), f("a", 7, -most, 1), f("b", 7, 1, 0), f("a", 3, most, 1), f("b", 3, 1, 0), f("a", 4, -most, 1), f("b", 4, -1, 0)}
	checkSum(t, l, 0, most, api.OK)
	checkSum(t, l, 7, 1-most, api.OK)
	checkSum(t, l, 3, 0, api.ErrOver)
	checkSum(t, l, 4, 0, api.ErrOver)
	checkSum(t, l, 1, 0, api.OK)
	checkSum(t, l[:2], 0, 0, api.ErrOver)
	checkNet(t, l[:2], api.OK, f("a", 0, most, 0), f("b", 0, most, 0))
}

// P22.2
func TestOf(t *testing.T) {
	for _, c := range []struct {
		member    string
		cur, want int
	}{{"a", 0, 3}, {"a", 1, 4}, {"a", 2, 0}, {"a", 7, 0}, {"b", 0, -3}, {"b", 1, 0}, {"c", 0, 0}} {
		checkOf(t, example(), c.member, c.cur, c.want, api.OK)
		checkOf(t, nil, c.member, c.cur, 0, api.OK)
	}
	for _, member := range append(noNames, "c", "aa", "a ", "ab") { // a string that no flow has
		checkOf(t, example(), member, 0, 0, api.OK)
		for _, cur := range noCurs {
			checkOf(t, example(), member, cur, 0, api.ErrRate)
		}
	}
	for _, cur := range noCurs {
		checkOf(t, example(), "a", cur, 0, api.ErrRate)
		checkOf(t, nil, "a", cur, 0, api.ErrRate)
	}
	l := []api.Flow{f("a", 0, most, 1), f("b", 0, most, 2), f("b", 0, most, 3), f("a", 1, most, 1), f("b", 0, -1, 1), f("a", 0, -1, 1)}
	checkOf(t, l, "a", 0, most-1, api.OK)
	checkOf(t, l, "a", 1, most, api.OK)
	checkOf(t, l, "b", 0, 0, api.ErrOver)
	checkOf(t, l, "b", 1, 0, api.OK)
	checkOf(t, l, "b", 8, 0, api.ErrRate)
	checkOf(t, l, "?", 0, 0, api.OK)
}

// oddFlows returns flows of which Check accepts none.
func oddFlows() []api.Flow {
	return []api.Flow{{}, f("A", -1, math.MinInt, 3), f("?", 99, math.MaxInt, -7), f("", 0, 5, math.MinInt), f("a b", 0, -most-1, math.MaxInt), f("A", 8, -1, 3), f("\xff", 8, 0, 2)}
}

// P22.3
func TestWhy(t *testing.T) {
	check := func(l []api.Flow, why int, want ...api.Flow) {
		t.Helper()
		given, unchanged := guarded(l)
		out := Why(given, why)
		if !slices.Equal(out, want) {
			t.Errorf("Why %d of %s: %s; want %s", why, short(l), short(out), short(want))
		}
		overwrite(out)
		if !unchanged() {
			t.Errorf("Why %d of %s: the argument has changed", why, short(l))
		}
	}
	check(nil, 0)
	check(example(), api.WhyFee, example()[1], example()[2])
	check(example(), api.WhyVary, example()[0])
	check(example(), 0, example()[3])
	for _, why := range []int{api.WhyPremium, api.WhyTear, -1, 6, 13, 1<<32 + 5, math.MinInt, math.MaxInt} {
		check(example(), why)
	}
	// Each of the reasons, and numbers that are none, has its own flows.
	all := append([]int{-1, 0}, 13, 1<<32+1, math.MinInt, math.MaxInt)
	for why := api.WhyVary; why <= api.WhyTear; why++ {
		all = append(all, why)
	}
	var l []api.Flow
	for _, why := range slices.Concat(all, all) {
		l = append(l, f("a", len(l), len(l), why))
	}
	for i, why := range all {
		check(l, why, l[i], l[i+len(all)])
	}
	odd := oddFlows()
	check(odd, 3, odd[1], odd[5])
	check(odd, -7, odd[2])
	check(odd, math.MinInt, odd[3])
	check(odd, math.MaxInt, odd[4])
	check(odd, 0, odd[0])
	check(slices.Repeat(odd, 5000), 3, slices.Repeat([]api.Flow{odd[1], odd[5]}, 5000)...)
}

// P22.3
func TestTurned(t *testing.T) {
	check := func(l, want []api.Flow) {
		t.Helper()
		given, unchanged := guarded(l)
		out := Turned(given)
		if !slices.Equal(out, want) {
			t.Errorf("Turned of %s: %s; want %s", short(l), short(out), short(want))
		}
		overwrite(out)
		if !unchanged() {
			t.Errorf("Turned of %s: the argument has changed", short(l))
		}
	}
	check(nil, nil)
	check(example(), []api.Flow{f("a", 0, -5, api.WhyVary), f("b", 0, 3, api.WhyFee), f("a", 0, 2, api.WhyFee), f("a", 1, -4, 0)})
	want := []api.Flow{{}, f("A", -1, math.MinInt, 3), f("?", 99, -math.MaxInt, -7), f("", 0, -5, math.MinInt), f("a b", 0, most+1, math.MaxInt), f("A", 8, 1, 3), f("\xff", 8, 0, 2)}
	check(oddFlows(), want)
	check(slices.Repeat(oddFlows(), 5000), slices.Repeat(want, 5000))
	check([]api.Flow{f("a", 0, math.MinInt+1, 1), f("a", 0, most, 1), f("a", 0, -most, 1)}, []api.Flow{f("a", 0, math.MaxInt, 1), f("a", 0, -most, 1), f("a", 0, most, 1)})
}

// P22.3
func TestPays(t *testing.T) {
	check := func(l, wantPay, wantGet []api.Flow) {
		t.Helper()
		given, unchanged := guarded(l)
		pay, get := Pays(given)
		if !slices.Equal(pay, wantPay) || !slices.Equal(get, wantGet) {
			t.Errorf("Pays of %s: %s and %s; want %s and %s", short(l), short(pay), short(get), short(wantPay), short(wantGet))
		}
		overwrite(pay)
		if !slices.Equal(get, wantGet) {
			t.Errorf("Pays of %s: the results share memory", short(l))
		}
		overwrite(get)
		if !unchanged() {
			t.Errorf("Pays of %s: the argument has changed", short(l))
		}
	}
	l := example()
	check(nil, nil, nil)
	check(l, []api.Flow{l[1], l[2]}, []api.Flow{l[0], l[3]})
	check([]api.Flow{f("a", 0, 0, 1), f("b", 0, 0, 2)}, nil, nil)
	check([]api.Flow{f("b", 0, 1, 1), f("c", 0, 0, 1), f("a", 0, 2, 1)}, nil, []api.Flow{f("b", 0, 1, 1), f("a", 0, 2, 1)})
	check([]api.Flow{f("b", 0, -1, 1), f("c", 0, 0, 1), f("a", 0, -2, 1)}, []api.Flow{f("b", 0, -1, 1), f("a", 0, -2, 1)}, nil)
	odd := oddFlows()
	pays, gets := []api.Flow{odd[1], odd[4], odd[5]}, []api.Flow{odd[2], odd[3]}
	check(odd, pays, gets)
	check(slices.Repeat(odd, 5000), slices.Repeat(pays, 5000), slices.Repeat(gets, 5000))
}

// P22.3
func TestZero(t *testing.T) {
	checkZero(t, nil, true)
	checkZero(t, []api.Flow{}, true)
	checkZero(t, example(), false)
	checkZero(t, example()[:3], true)
	checkZero(t, []api.Flow{f("a", 0, 0, 1)}, true)
	for cur := range api.MaxCur {
		checkZero(t, []api.Flow{f("a", cur, 1, 1)}, false)
		checkZero(t, []api.Flow{f("a", cur, -1, 1)}, false)
		checkZero(t, []api.Flow{f("a", cur, 7, 1), f("b", cur, -7, 2)}, true)
		checkZero(t, []api.Flow{f("a", cur, 7, 1), f("b", cur, -6, 2)}, false)
		checkZero(t, []api.Flow{f("a", cur, 7, 1), f("a", (cur+1)%api.MaxCur, -7, 1)}, false)
		// What is no sum is not 0.
		checkZero(t, []api.Flow{f("a", cur, most, 1), f("b", cur, most, 1)}, false)
		checkZero(t, []api.Flow{f("a", cur, most, 1), f("b", cur, most, 1), f("c", cur, -most, 1), f("d", cur, -most, 1)}, true)
	}
	// What Check does not accept is not either.
	for _, odd := range []api.Flow{{}, f("A", 0, 0, 1), f("a", -1, 0, 1), f("a", 8, 0, 1)} {
		checkZero(t, []api.Flow{odd}, false)
		checkZero(t, append(example()[:3], odd), false)
	}
	checkZero(t, []api.Flow{f("a", 0, most+1, 1), f("b", 0, -most-1, 1)}, false)
	checkZero(t, slices.Repeat([]api.Flow{f("a", 0, 0, 1)}, api.MaxList), true)
	checkZero(t, slices.Repeat([]api.Flow{f("a", 0, 0, 1)}, api.MaxList+1), false)
}

// randomFlows returns flows that Check accepts, of few members and currencies.
func randomFlows(r *rand.Rand) (l []api.Flow) {
	least := 3 + r.Intn(2)*r.Intn(58) // every other list has amounts near the bound
	for range r.Intn(40) {
		cents := int(r.Uint64()) >> (least + r.Intn(4))
		l = append(l, f([]string{"a", "ab", "b", "z9"}[r.Intn(4)], r.Intn(3)*3, cents, r.Intn(14)-1))
	}
	return l
}

// exactly returns the total Cents of some flows as a call must return it.
func exactly(l []api.Flow, counts func(api.Flow) bool) (n int, e api.Errno) {
	sum := new(big.Int)
	for _, f := range l {
		if counts(f) {
			sum.Add(sum, big.NewInt(int64(f.Cents)))
		}
	}
	if sum.CmpAbs(big.NewInt(most)) > 0 {
		return 0, api.ErrOver
	}
	return int(sum.Int64()), api.OK
}

// P22.2: random flows against the definition.
func TestRandom(t *testing.T) {
	r := rand.New(rand.NewSource(222))
	over := 0
	for range 2000 {
		l := randomFlows(r)
		var want []api.Flow
		wantError := api.OK
		zero := true
		for cur := range api.MaxCur {
			n, e := exactly(l, func(f api.Flow) bool { return f.Cur == cur })
			checkSum(t, l, cur, n, e)
			zero = zero && n == 0 && e == api.OK
			for _, member := range []string{"a", "ab", "b", "z9", "none"} {
				n, e := exactly(l, func(f api.Flow) bool { return f.Member == member && f.Cur == cur })
				checkOf(t, l, member, cur, n, e)
				if e != api.OK {
					wantError = e
				} else if n != 0 {
					want = append(want, f(member, cur, n, 0))
				}
			}
		}
		checkZero(t, l, zero)
		slices.SortFunc(want, func(x, y api.Flow) int {
			return cmp.Or(strings.Compare(x.Member, y.Member), cmp.Compare(x.Cur, y.Cur))
		})
		if wantError != api.OK {
			want, over = nil, over+1
		}
		checkNet(t, l, wantError, want...)
	}
	if over < 20 || over > 1500 {
		t.Errorf("%d totals are too great", over)
	}
}

// P22.4: Net does not depend on the order of the flows, and Net of Net is Net.
func TestNetOrder(t *testing.T) {
	r := rand.New(rand.NewSource(224))
	for range 500 {
		l := randomFlows(r)
		net, e := Net(l)
		for range 5 {
			r.Shuffle(len(l), func(i, j int) { l[i], l[j] = l[j], l[i] })
			checkNet(t, l, e, net...)
		}
		checkNet(t, net, api.OK, net...)
	}
}

// P22.5: Net has the same Sum in each currency; flows and their negations add up to 0.
func TestNoCent(t *testing.T) {
	r := rand.New(rand.NewSource(225))
	for range 500 {
		l := randomFlows(r)
		net, e := Net(l)
		for cur := range api.MaxCur {
			if e == api.OK {
				n, e := Sum(l, cur)
				checkSum(t, net, cur, n, e)
			}
		}
		both := slices.Concat(l, Turned(l))
		checkZero(t, both, true)
		checkNet(t, both, api.OK)
	}
}

// P22.6: what two lists have of a member adds up to what both together have.
func TestParts(t *testing.T) {
	r := rand.New(rand.NewSource(226))
	for range 500 {
		var l [2][]api.Flow
		all := randomFlows(r)
		for i := range all {
			all[i].Cents /= api.MaxList
			part := r.Intn(2)
			l[part] = append(l[part], all[i])
		}
		for _, member := range []string{"a", "ab", "b", "z9", "none"} {
			for cur := range api.MaxCur {
				first, e := Of(l[0], member, cur)
				if e != api.OK {
					t.Errorf("Of %q in %d of %v: error %d", member, cur, l[0], e)
				}
				second, e := Of(l[1], member, cur)
				if e != api.OK {
					t.Errorf("Of %q in %d of %v: error %d", member, cur, l[1], e)
				}
				checkOf(t, all, member, cur, first+second, api.OK)
			}
		}
	}
}
