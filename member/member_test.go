package member

import (
	"fmt"
	"math"
	"math/rand"
	"reflect"
	"slices"
	"strings"
	"testing"

	"contango/api"
)

// far are ints at the ends of int and of its halves.
var far = []int{math.MinInt, math.MinInt + 1, -1 << 32, 1 << 32, 1<<32 + 1, math.MaxInt - 1, math.MaxInt}

var statuses = []int{api.Active, api.Suspended, api.Defaulted, api.Left}

// noStatuses are ints that are no status.
var noStatuses = append([]int{0, 5, -1, -4, 6}, far...)

var kinds = []int{api.AccHouse, api.AccNet, api.AccGross}

// noKinds are ints that are no kinds of accounts.
var noKinds = append([]int{0, 4, -1, 5}, far...)

// noNames are texts that are not names.
var noNames = []string{"", "1", "1a", "Alfa", "alfa ", " alfa", "a b", "alfa.", "alfa\n", "a-b", "abcdefghijklm", "\xc3\xa4", strings.Repeat("a", 10000)}

// acts are all acts, and ints that are none.
var acts = append([]int{-1, 0, 1, 2, 3, 4, 5, 6, 7, 8, 9, 10, 11, 12}, far...)

// world returns a valid list: a member of each status, with accounts of each kind.
func world() []api.Member {
	accounts := func(names ...string) (l []api.Account) {
		for i, name := range names {
			l = append(l, api.Account{Name: name, Kind: kinds[i%3]})
		}
		return l
	}
	return []api.Member{
		{Name: "bank", Status: api.Active, Accounts: accounts("b", "d", "f")},
		{Name: "dealer", Status: api.Suspended, Accounts: accounts("b", "d")},
		{Name: "failed", Status: api.Defaulted, Accounts: accounts("b", "d")},
		{Name: "gone", Status: api.Left, Accounts: accounts("b", "d")},
		{Name: "young", Status: api.Active},
	}
}

// many returns so many valid members with ascending names, each with so many accounts.
func many(members, accounts int) (l []api.Member) {
	for i := range members {
		m := api.Member{Name: fmt.Sprintf("m%04d", i), Status: api.Active}
		for j := range accounts {
			m.Accounts = append(m.Accounts, api.Account{Name: fmt.Sprintf("a%04d", j), Kind: kinds[j%3]})
		}
		l = append(l, m)
	}
	return l
}

// deepClone returns a list that shares no memory with another one.
func deepClone(l []api.Member) []api.Member {
	out := slices.Clone(l)
	for i := range out {
		out[i].Accounts = slices.Clone(out[i].Accounts)
	}
	return out
}

// same reports whether two lists are equal, where empty and nil slices are.
func same(a, b []api.Member) bool {
	return slices.EqualFunc(a, b, func(x, y api.Member) bool {
		return x.Name == y.Name && x.Status == y.Status && slices.Equal(x.Accounts, y.Accounts)
	})
}

// wrongLists are lists that Check does not accept, one for each of its errors and places, with that error.
func wrongLists() map[string]struct {
	l []api.Member
	e api.Errno
} {
	type wrong = struct {
		l []api.Member
		e api.Errno
	}
	spoilt := func(spoil func(l []api.Member), e api.Errno) wrong {
		l := world()
		spoil(l)
		return wrong{l, e}
	}
	return map[string]wrong{
		"too many members":  {many(api.MaxMembers+1, 0), api.ErrLong},
		"name":              spoilt(func(l []api.Member) { l[2].Name = "Failed" }, api.ErrName),
		"first name":        spoilt(func(l []api.Member) { l[0].Name = "" }, api.ErrName),
		"name twice":        spoilt(func(l []api.Member) { l[1].Name = "bank" }, api.ErrThere),
		"exchanged":         spoilt(func(l []api.Member) { l[0], l[4] = l[4], l[0] }, api.ErrThere),
		"status":            spoilt(func(l []api.Member) { l[4].Status = 0 }, api.ErrState),
		"too many accounts": spoilt(func(l []api.Member) { l[4].Accounts = many(1, api.MaxAccounts+1)[0].Accounts }, api.ErrLong),
		"account name":      spoilt(func(l []api.Member) { l[3].Accounts[1].Name = "1" }, api.ErrName),
		"account twice":     spoilt(func(l []api.Member) { l[3].Accounts[1].Name = "b" }, api.ErrThere),
		"account order":     spoilt(func(l []api.Member) { l[3].Accounts[1].Name = "a" }, api.ErrThere),
		"kind":              spoilt(func(l []api.Member) { l[0].Accounts[2].Kind = 4 }, api.ErrAccount),
	}
}

func checkError(t *testing.T, what string, e, want api.Errno) {
	t.Helper()
	if e != want {
		t.Errorf("%s: error %d; want %d", what, e, want)
	}
}

func checkList(t *testing.T, what string, l []api.Member, e api.Errno, want []api.Member) {
	t.Helper()
	if e != api.OK || !same(l, want) {
		t.Errorf("%s: %v, error %d; want %v", what, l, e, want)
	}
}

func checkListError(t *testing.T, what string, l []api.Member, e, want api.Errno) {
	t.Helper()
	if e != want || len(l) != 0 {
		t.Errorf("%s: %v, error %d; want error %d", what, l, e, want)
	}
}

// P11.1
func TestCheck(t *testing.T) {
	for what, l := range map[string][]api.Member{
		"none":             nil,
		"an empty list":    {},
		"the world":        world(),
		"one":              many(1, 0),
		"most members":     many(api.MaxMembers, 1),
		"most of both":     many(api.MaxMembers, api.MaxAccounts),
		"empty accounts":   {{Name: "a", Status: api.Active, Accounts: []api.Account{}}},
		"the longest name": {{Name: "a23456789012", Status: api.Left, Accounts: []api.Account{{Name: "z23456789012", Kind: api.AccGross}}}},
	} {
		checkError(t, what, Check(l), api.OK)
	}
	for what, c := range wrongLists() {
		checkError(t, what, Check(c.l), c.e)
	}
	checkError(t, "twice as many members", Check(many(2*api.MaxMembers, 0)), api.ErrLong)
	checkError(t, "far too many accounts", Check(many(1, 1000)), api.ErrLong)
}

// P11.1: each value of a field, in each place of a list.
func TestCheckPlaces(t *testing.T) {
	for i := range api.MaxMembers {
		hold := func(what string, want api.Errno, spoil func(m *api.Member)) {
			t.Helper()
			l := many(api.MaxMembers, 2)
			spoil(&l[i])
			checkError(t, fmt.Sprint(what, " of member ", i), Check(l), want)
		}
		for _, name := range noNames {
			hold("a name", api.ErrName, func(m *api.Member) { m.Name = name })
		}
		for _, status := range statuses {
			hold("a status", api.OK, func(m *api.Member) { m.Status = status })
		}
		for _, status := range noStatuses {
			hold("no status", api.ErrState, func(m *api.Member) { m.Status = status })
		}
		hold("most accounts", api.OK, func(m *api.Member) { m.Accounts = many(1, api.MaxAccounts)[0].Accounts })
		hold("one account more", api.ErrLong, func(m *api.Member) { m.Accounts = many(1, api.MaxAccounts+1)[0].Accounts })
		if i > 0 {
			hold("the previous name", api.ErrThere, func(m *api.Member) { m.Name = fmt.Sprintf("m%04d", i-1) })
			hold("a lesser name", api.ErrThere, func(m *api.Member) { m.Name = "a" })
		}
	}
}

// P11.1: each value of an account's fields, in each place of its list.
func TestCheckAccountPlaces(t *testing.T) {
	for i := range api.MaxAccounts {
		hold := func(what string, want api.Errno, spoil func(a *api.Account)) {
			t.Helper()
			l := many(3, api.MaxAccounts)
			spoil(&l[1].Accounts[i])
			checkError(t, fmt.Sprint(what, " of account ", i), Check(l), want)
		}
		for _, name := range noNames {
			hold("a name", api.ErrName, func(a *api.Account) { a.Name = name })
		}
		for _, kind := range kinds {
			hold("a kind", api.OK, func(a *api.Account) { a.Kind = kind })
		}
		for _, kind := range noKinds {
			hold("no kind", api.ErrAccount, func(a *api.Account) { a.Kind = kind })
		}
		if i > 0 {
			hold("the previous name", api.ErrThere, func(a *api.Account) { a.Name = fmt.Sprintf("a%04d", i-1) })
			hold("a lesser name", api.ErrThere, func(a *api.Account) { a.Name = "a" })
		}
	}
}

// P11.1: names ascend byte by byte, of members and of accounts.
func TestCheckNames(t *testing.T) {
	for names, want := range map[string]api.Errno{
		"a b": api.OK, "a a": api.ErrThere, "b a": api.ErrThere, "a a0": api.OK, "a0 a": api.ErrThere, "a0 aa": api.OK, "aa a0": api.ErrThere,
		"a10 a9": api.OK, "a9 a10": api.ErrThere, "b aa": api.ErrThere, "a b a": api.ErrThere, "a c b": api.ErrThere,
	} {
		var members []api.Member
		var accounts []api.Account
		for _, name := range strings.Fields(names) {
			members = append(members, api.Member{Name: name, Status: api.Active})
			accounts = append(accounts, api.Account{Name: name, Kind: api.AccNet})
		}
		checkError(t, "members "+names, Check(members), want)
		checkError(t, "accounts "+names, Check([]api.Member{{Name: "m", Status: api.Active, Accounts: accounts}}), want)
	}
}

// P11.1: of all combinations of faults of one member the first one's error is returned.
func TestCheckOrder(t *testing.T) {
	faults := []struct {
		spoil func(m *api.Member)
		e     api.Errno
	}{
		{func(m *api.Member) { m.Name = "Z" }, api.ErrName}, // also less than the previous one
		{func(m *api.Member) { m.Name = "a" }, api.ErrThere},
		{func(m *api.Member) { m.Status = 5 }, api.ErrState},
		{func(m *api.Member) { m.Accounts = append(m.Accounts, many(1, api.MaxAccounts)[0].Accounts...) }, api.ErrLong},
		{func(m *api.Member) { m.Accounts[1].Name = "" }, api.ErrName},
		{func(m *api.Member) { m.Accounts[1].Name = "b" }, api.ErrThere},
		{func(m *api.Member) { m.Accounts[1].Kind = 0 }, api.ErrAccount},
	}
	for set := 1; set < 1<<len(faults); set++ {
		l, want := world(), api.OK
		for i := len(faults) - 1; i >= 0; i-- { // the first fault is laid last, over a later one of the same field
			if set>>i&1 == 1 {
				faults[i].spoil(&l[1])
				want = faults[i].e
			}
		}
		checkError(t, fmt.Sprintf("faults %07b", set), Check(l), want)
	}
}

// P11.1: the number of members is checked first; then all of one member, with its accounts, before the next one.
func TestCheckOneByOne(t *testing.T) {
	l := many(api.MaxMembers+1, 0)
	l[0] = api.Member{}
	checkError(t, "too many and a name", Check(l), api.ErrLong)
	l = world()
	l[0].Accounts[2].Kind, l[1].Name = 0, "?"
	checkError(t, "the last account, then a member", Check(l), api.ErrAccount)
	l = world()
	l[0].Accounts[0].Kind, l[0].Accounts[1].Name = 9, "?"
	checkError(t, "an account, then the next one", Check(l), api.ErrAccount)
	l = world()
	l[1].Status, l[2].Name = 0, "?"
	checkError(t, "a status, then a name", Check(l), api.ErrState)
	l = world()
	l[1].Name, l[2].Name = "z", "?"
	checkError(t, "a name that is none behind a greater one", Check(l), api.ErrName)
	l[2].Name = "failed"
	checkError(t, "less than a greater one ahead", Check(l), api.ErrThere)
}

// oddList returns a list that is not valid, in which a name stands twice.
func oddList() []api.Member {
	return []api.Member{
		{Name: "z", Status: 9, Accounts: []api.Account{{Name: "x", Kind: 7}, {Name: "", Kind: 1}, {Name: "x", Kind: 2}}},
		{Name: "a", Status: api.Active, Accounts: []api.Account{{Name: "b", Kind: 1}}},
		{Name: "", Status: api.Suspended},
		{Name: "z", Status: api.Active, Accounts: []api.Account{{Name: "only", Kind: 1}}},
		{Name: "A b", Status: api.Active, Accounts: []api.Account{{Name: "B c", Kind: -3}}},
	}
}

// P11.2
func TestFind(t *testing.T) {
	for _, l := range [][]api.Member{world(), oddList(), many(1000, 2)} {
		for i, want := range l {
			if slices.ContainsFunc(l[:i], func(m api.Member) bool { return m.Name == want.Name }) {
				continue
			}
			if m, ok := Find(l, want.Name); !ok || !same([]api.Member{m}, []api.Member{want}) {
				t.Errorf("%q: %v, %t; want %v", want.Name, m, ok, want)
			}
		}
		for _, name := range []string{"ban", "bankx", "Bank", "zz", "m", "x", " ", strings.Repeat("z", 100000)} {
			if m, ok := Find(l, name); ok || !reflect.ValueOf(m).IsZero() {
				t.Errorf("%q: %v, %t", name, m, ok)
			}
		}
	}
	if m, ok := Find(oddList(), "z"); !ok || m.Status != 9 {
		t.Errorf("the first of two: %v, %t", m, ok)
	}
	if m, ok := Find(nil, ""); ok || !reflect.ValueOf(m).IsZero() {
		t.Errorf("in no list: %v, %t", m, ok)
	}
}

// P11.2
func TestAccount(t *testing.T) {
	for _, c := range []struct {
		l            []api.Member
		member, name string
		want         api.Account
		ok           bool
	}{
		{world(), "bank", "b", api.Account{Name: "b", Kind: api.AccHouse}, true},
		{world(), "bank", "f", api.Account{Name: "f", Kind: api.AccGross}, true},
		{world(), "gone", "d", api.Account{Name: "d", Kind: api.AccNet}, true},
		{world(), "gone", "f", api.Account{}, false}, // another member's
		{world(), "young", "b", api.Account{}, false},
		{world(), "bank", "", api.Account{}, false},
		{world(), "", "b", api.Account{}, false},
		{world(), "b", "bank", api.Account{}, false},
		{world(), "none", "b", api.Account{}, false},
		{oddList(), "z", "x", api.Account{Name: "x", Kind: 7}, true},
		{oddList(), "z", "", api.Account{Name: "", Kind: 1}, true},
		{oddList(), "z", "only", api.Account{}, false}, // of the second member of that name
		{oddList(), "", "", api.Account{}, false},
		{oddList(), "A b", "B c", api.Account{Name: "B c", Kind: -3}, true},
		{nil, "", "", api.Account{}, false},
		{many(1000, 1000), "m0999", "a0999", api.Account{Name: "a0999", Kind: kinds[0]}, true},
	} {
		if a, ok := Account(c.l, api.Acc{Member: c.member, Name: c.name}); a != c.want || ok != c.ok {
			t.Errorf("%q %q: %v, %t; want %v, %t", c.member, c.name, a, ok, c.want, c.ok)
		}
	}
}

// P11.2
func TestAccounts(t *testing.T) {
	for _, c := range []struct {
		l    []api.Member
		want []api.Acc
	}{
		{nil, nil},
		{many(3, 0), nil},
		{world(), []api.Acc{{Member: "bank", Name: "b"}, {Member: "bank", Name: "d"}, {Member: "bank", Name: "f"}, {Member: "dealer", Name: "b"}, {Member: "dealer", Name: "d"}, {Member: "failed", Name: "b"}, {Member: "failed", Name: "d"}, {Member: "gone", Name: "b"}, {Member: "gone", Name: "d"}}},
		{oddList(), []api.Acc{{Member: "z", Name: "x"}, {Member: "z", Name: ""}, {Member: "z", Name: "x"}, {Member: "a", Name: "b"}, {Member: "z", Name: "only"}, {Member: "A b", Name: "B c"}}},
	} {
		if l := Accounts(c.l); !slices.Equal(l, c.want) {
			t.Errorf("%v; want %v", l, c.want)
		}
	}
	if l := Accounts(many(100, 100)); len(l) != 10000 || l[101] != (api.Acc{Member: "m0001", Name: "a0001"}) {
		t.Errorf("%d of many", len(l))
	}
}

// P11.3: at the front, in between and at the end.
func TestAdd(t *testing.T) {
	for name, i := range map[string]int{"a": 0, "ban": 0, "bank0": 1, "c": 1, "dealer0": 2, "e": 2, "f": 2, "g": 3, "h": 4, "youn": 4, "young1": 5, "z": 5, "zzzzzzzzzzzz": 5} {
		want := slices.Insert(world(), i, api.Member{Name: name, Status: api.Active})
		l, e := Add(world(), name)
		checkList(t, name, l, e, want)
	}
	l, e := Add(nil, "a")
	checkList(t, "to none", l, e, []api.Member{{Name: "a", Status: api.Active}})
	l, e = Add([]api.Member{}, "a")
	checkList(t, "to an empty list", l, e, []api.Member{{Name: "a", Status: api.Active}})
}

// P11.3: the errors in their order.
func TestAddErrors(t *testing.T) {
	for what, c := range wrongLists() {
		for _, name := range []string{"new", "bank", "", "m0001"} {
			l, e := Add(c.l, name)
			checkListError(t, what, l, e, c.e)
		}
	}
	for _, full := range [][]api.Member{world(), many(api.MaxMembers, 1)} {
		for _, name := range noNames {
			l, e := Add(full, name)
			checkListError(t, name, l, e, api.ErrName)
		}
		for _, m := range full {
			l, e := Add(full, m.Name)
			checkListError(t, m.Name, l, e, api.ErrThere)
		}
	}
	for _, name := range []string{"a", "m0001x", "z"} {
		l, e := Add(many(api.MaxMembers-1, 1), name)
		if e != api.OK || len(l) != api.MaxMembers {
			t.Errorf("the last that has room: %d members, error %d", len(l), e)
		}
		l, e = Add(many(api.MaxMembers, 1), name)
		checkListError(t, "one more", l, e, api.ErrLong)
	}
}

// P11.4: at the front, in between and at the end, of every kind.
func TestOpen(t *testing.T) {
	for _, kind := range kinds {
		for name, i := range map[string]int{"a": 0, "b0": 1, "c": 1, "e": 2, "d9": 2, "f0": 3, "zzzzzzzzzzzz": 3, "bank": 1} {
			want := world()
			want[0].Accounts = slices.Insert(want[0].Accounts, i, api.Account{Name: name, Kind: kind})
			l, e := Open(world(), api.Acc{Member: "bank", Name: name}, kind)
			checkList(t, name, l, e, want)
		}
		want := world()
		want[4].Accounts = []api.Account{{Name: "b", Kind: kind}} // other members have one of that name
		l, e := Open(world(), api.Acc{Member: "young", Name: "b"}, kind)
		checkList(t, "the first account", l, e, want)
	}
}

// P11.4: the errors in their order.
func TestOpenErrors(t *testing.T) {
	bad := append([]string{"b", "new"}, noNames...)
	for what, c := range wrongLists() {
		for _, acc := range []api.Acc{{Member: "bank", Name: "new"}, {Member: "m0000", Name: "new"}, {Member: "gone", Name: ""}, {}} {
			l, e := Open(c.l, acc, api.AccNet)
			checkListError(t, what, l, e, c.e)
		}
	}
	for _, member := range []string{"", "ban", "Bank", "dealer", "failed", "gone", "zz"} {
		for _, name := range bad {
			for _, kind := range []int{0, 1, 4} {
				l, e := Open(world(), api.Acc{Member: member, Name: name}, kind)
				checkListError(t, member, l, e, api.ErrMember)
			}
		}
	}
	for _, accounts := range []int{2, api.MaxAccounts} {
		all := many(2, accounts)
		for _, name := range noNames {
			for _, kind := range []int{0, 1, 4} {
				l, e := Open(all, api.Acc{Member: "m0001", Name: name}, kind)
				checkListError(t, name, l, e, api.ErrName)
			}
		}
		for _, kind := range noKinds {
			for _, name := range []string{"a0000", "new"} {
				l, e := Open(all, api.Acc{Member: "m0001", Name: name}, kind)
				checkListError(t, fmt.Sprint("kind ", kind), l, e, api.ErrAccount)
			}
		}
		for _, a := range all[1].Accounts {
			l, e := Open(all, api.Acc{Member: "m0001", Name: a.Name}, api.AccGross)
			checkListError(t, a.Name, l, e, api.ErrThere)
		}
	}
}

// P11.4: the account that still has room, and one more.
func TestOpenFull(t *testing.T) {
	for _, name := range []string{"a", "a0007x", "z"} {
		acc := api.Acc{Member: "m0000", Name: name}
		l, e := Open(many(2, api.MaxAccounts-1), acc, api.AccNet)
		if e != api.OK || len(l[0].Accounts) != api.MaxAccounts || len(l[1].Accounts) != api.MaxAccounts-1 {
			t.Errorf("the last that has room: %v, error %d", l, e)
		}
		l, e = Open(many(2, api.MaxAccounts), acc, api.AccNet)
		checkListError(t, "one more", l, e, api.ErrLong)
	}
}

// change is one of a status.
type change struct {
	from, to int
}

// changes are those that are allowed.
var changes = map[change]bool{
	{api.Active, api.Suspended}:    true,
	{api.Active, api.Defaulted}:    true,
	{api.Active, api.Left}:         true,
	{api.Suspended, api.Active}:    true,
	{api.Suspended, api.Defaulted}: true,
}

// P11.5: from every status to every number, for each member of a list.
func TestStatus(t *testing.T) {
	for i, m := range world() {
		for _, from := range statuses {
			for _, to := range append(slices.Clone(statuses), noStatuses...) {
				before, want := world(), world()
				before[i].Status, want[i].Status = from, to
				l, e := Status(before, m.Name, to)
				what := fmt.Sprint(m.Name, " from ", from, " to ", to)
				if changes[change{from, to}] {
					checkList(t, what, l, e, want)
				} else {
					checkListError(t, what, l, e, api.ErrState)
				}
			}
		}
	}
}

// P11.5: the errors in their order.
func TestStatusErrors(t *testing.T) {
	for what, c := range wrongLists() {
		for _, name := range []string{"bank", "gone", "none", "", "m0001"} {
			l, e := Status(c.l, name, api.Suspended)
			checkListError(t, what, l, e, c.e)
		}
	}
	for _, name := range []string{"", "ban", "bankx", "Bank", "zz"} {
		for _, status := range append(slices.Clone(statuses), noStatuses...) {
			l, e := Status(world(), name, status)
			checkListError(t, name, l, e, api.ErrMember)
		}
	}
	l, e := Status(nil, "a", api.Left)
	checkListError(t, "of none", l, e, api.ErrMember)
}

// allowed is what chapter 11 says of each status, act by act, as far as they have names.
var allowed = map[int][]int{
	api.Active:    {api.ActTrade, api.ActBust, api.ActGiveUp, api.ActMove, api.ActMark, api.ActReckon, api.ActPay, api.ActDefault, api.ActAdmin, api.ActPledge},
	api.Suspended: {api.ActBust, api.ActMove, api.ActMark, api.ActReckon, api.ActPay, api.ActDefault, api.ActAdmin, api.ActPledge},
	api.Defaulted: {api.ActMove, api.ActMark, api.ActReckon, api.ActPay, api.ActDefault},
}

// P11.6: every status and every act; acts without a name are allowed where all are but some.
func TestMay(t *testing.T) {
	for _, status := range append(slices.Clone(statuses), noStatuses...) {
		l := world()
		l[1].Status = status
		for _, act := range acts {
			named := act >= api.ActTrade && act <= api.ActPledge
			want := api.ErrState
			if slices.Contains(allowed[status], act) || !named && (status == api.Active || status == api.Suspended) {
				want = api.OK
			}
			for _, name := range []string{"b", "d"} {
				checkError(t, fmt.Sprint("status ", status, ", act ", act), May(l, api.Acc{Member: "dealer", Name: name}, act), want)
			}
		}
	}
}

// P11.6: ErrMember ahead of ErrAccount ahead of ErrState, in any list.
func TestMayErrors(t *testing.T) {
	for _, act := range acts {
		for _, c := range []struct {
			l            []api.Member
			member, name string
			want         api.Errno
		}{
			{nil, "", "", api.ErrMember},
			{world(), "", "b", api.ErrMember},
			{world(), "none", "b", api.ErrMember},
			{world(), "Bank", "b", api.ErrMember},
			{world(), "none", "none", api.ErrMember},
			{world(), "bank", "", api.ErrAccount},
			{world(), "bank", "none", api.ErrAccount},
			{world(), "young", "b", api.ErrAccount},
			{world(), "failed", "f", api.ErrAccount},
			{world(), "gone", "f", api.ErrAccount},
			{world(), "gone", "b", api.ErrState},
			{oddList(), "z", "x", api.ErrState}, // the first of that name, with a status that is none
			{oddList(), "z", "only", api.ErrAccount},
			{oddList(), "", "", api.ErrAccount},
			{oddList(), "A b", "B c", api.OK},
			{many(1000, 100), "m0999", "a0099", api.OK},
		} {
			checkError(t, fmt.Sprintf("%q %q, act %d", c.member, c.name, act), May(c.l, api.Acc{Member: c.member, Name: c.name}, act), c.want)
		}
	}
}

// P11.8: what a Defaulted member may do, a Suspended one may do; what a Suspended one may do, an Active one may do; and each may do less.
func TestMayDoLess(t *testing.T) {
	acc := api.Acc{Member: "a", Name: "b"}
	may := func(status, act int) bool {
		return May([]api.Member{{Name: "a", Status: status, Accounts: []api.Account{{Name: "b", Kind: 1}}}}, acc, act) == api.OK
	}
	order := []int{api.Left, api.Defaulted, api.Suspended, api.Active}
	for i := 1; i < len(order); i++ {
		more := 0
		for _, act := range acts {
			if may(order[i-1], act) && !may(order[i], act) {
				t.Errorf("act %d is allowed to %d but not to %d", act, order[i-1], order[i])
			}
			if may(order[i], act) && !may(order[i-1], act) {
				more++
			}
		}
		if more == 0 {
			t.Errorf("%d may do no more than %d", order[i], order[i-1])
		}
	}
}

// step makes a random call of Add, Open or Status, and returns what it says the list is after it.
func step(r *rand.Rand, l []api.Member) (out []api.Member, e api.Errno, name string) {
	name = []string{"a", "b", "c", "d", "e", "a1", "zz", "X"}[r.Intn(8)]
	switch r.Intn(3) {
	case 0:
		out, e = Add(l, name)
	case 1:
		out, e = Open(l, api.Acc{Member: name, Name: []string{"p", "q", "r", "s", "Y"}[r.Intn(5)]}, r.Intn(5))
	default:
		out, e = Status(l, name, r.Intn(6))
	}
	return out, e, name
}

// others returns the members of a list that do not have a name.
func others(l []api.Member, name string) []api.Member {
	return slices.DeleteFunc(slices.Clone(l), func(m api.Member) bool { return m.Name == name })
}

// P11.7, P11.8: random calls keep a list valid and all other members as they were, lose no account, and bring no Defaulted or Left member back.
func TestManyCalls(t *testing.T) {
	r := rand.New(rand.NewSource(117))
	done := 0
	for range 300 {
		var l []api.Member
		for range 60 {
			before := deepClone(l)
			out, e, name := step(r, l)
			if !same(l, before) {
				t.Fatalf("%v became %v", before, l)
			}
			if e != api.OK {
				checkListError(t, name, out, e, e)
				continue
			}
			done++
			checkError(t, "the new list", Check(out), api.OK)
			if !same(others(out, name), others(l, name)) {
				t.Errorf("%s: others than it changed: %v, then %v", name, l, out)
			}
			checkKept(t, l, out, name)
			l = out
		}
	}
	if done < 3000 {
		t.Errorf("only %d calls did something", done)
	}
}

// checkKept tests what a call keeps of the member that it changes, if it was there before.
func checkKept(t *testing.T, before, after []api.Member, name string) {
	t.Helper()
	m, there := Find(before, name)
	n, still := Find(after, name)
	if !still || there && (m.Status == api.Defaulted || m.Status == api.Left) {
		t.Errorf("%s: %v, then %v", name, m, n)
	}
	for _, a := range m.Accounts {
		if !slices.Contains(n.Accounts, a) {
			t.Errorf("%s: account %v is lost", name, a)
		}
	}
	if there && m.Status != n.Status && len(m.Accounts) != len(n.Accounts) {
		t.Errorf("%s: both its status and its accounts changed", name)
	}
}

// overwrite changes all memory of a list that a call returned, with its accounts.
func overwrite(l []api.Member) {
	for _, m := range l[:cap(l)] {
		for i := range m.Accounts[:cap(m.Accounts)] {
			m.Accounts[:cap(m.Accounts)][i] = api.Account{Name: "overwritten", Kind: -1}
		}
	}
	for i := range l[:cap(l)] {
		l[:cap(l)][i] = api.Member{Name: "overwritten"}
	}
}

// shared returns a valid list in memory that goes on behind it, whose members have accounts in one memory that goes on too; and both memories.
func shared() (l, memory []api.Member, accounts []api.Account) {
	accounts = []api.Account{{Name: "b", Kind: 1}, {Name: "d", Kind: 2}, {Name: "behind", Kind: 3}, {Name: "behind", Kind: 3}}
	memory = []api.Member{{Name: "bank", Status: 1, Accounts: accounts[:2]}, {Name: "dealer", Status: 1, Accounts: accounts[:2]}, {Name: "empty", Status: 1, Accounts: accounts[:0]}, {Name: "behind"}, {Name: "behind"}}
	return memory[:3], memory, accounts
}

// General rule 4: arguments stay as they are, with the memory behind them, and results are new memory.
func TestArguments(t *testing.T) {
	calls := map[string]func(l []api.Member) []api.Member{
		"Find":  func(l []api.Member) []api.Member { m, _ := Find(l, "bank"); return []api.Member{m} },
		"empty": func(l []api.Member) []api.Member { m, _ := Find(l, "empty"); return []api.Member{m} },
	}
	for _, name := range []string{"a", "c", "z"} {
		calls["Add "+name] = func(l []api.Member) []api.Member { out, _ := Add(l, name); return out }
		for _, member := range []string{"bank", "dealer", "empty"} {
			calls["Open "+member+" "+name] = func(l []api.Member) []api.Member {
				out, _ := Open(l, api.Acc{Member: member, Name: name}, 1)
				return out
			}
			calls["Status "+member] = func(l []api.Member) []api.Member { out, _ := Status(l, member, api.Left); return out }
		}
	}
	for what, call := range calls {
		l, memory, accounts := shared()
		_, wantMemory, wantAccounts := shared()
		out := call(l)
		if len(out) == 0 {
			t.Errorf("%s returns nothing", what)
		}
		overwrite(out)
		if !same(memory, wantMemory) || !slices.Equal(accounts, wantAccounts) {
			t.Errorf("%s: the memory became %v, %v", what, memory, accounts)
		}
	}
}

// General rule 4: no two slices of a result share memory, even if those of the argument do.
func TestResultsShareNothing(t *testing.T) {
	l, _, _ := shared()
	added, _ := Add(l, "c")
	opened, _ := Open(l, api.Acc{Member: "bank", Name: "c"}, 1)
	changed, _ := Status(l, "bank", api.Left)
	for _, out := range [][]api.Member{added, opened, changed} {
		want := deepClone(out)
		for i := range out {
			a := out[i].Accounts[:cap(out[i].Accounts)]
			for j := range a {
				a[j] = api.Account{Name: "overwritten"}
			}
			want[i].Accounts = slices.Clone(out[i].Accounts)
			if !same(out, want) {
				t.Fatalf("accounts of %d overwrite others: %v; want %v", i, out, want)
			}
		}
	}
}

func TestExamples(t *testing.T) {
	l, e := Add(nil, "alfa")
	checkError(t, "Add of alfa", e, api.OK)
	l, e = Add(l, "bravo")
	checkList(t, "Add of bravo", l, e, []api.Member{{Name: "alfa", Status: api.Active}, {Name: "bravo", Status: api.Active}})
	acc := api.Acc{Member: "alfa", Name: "house"}
	l, e = Open(l, acc, api.AccHouse)
	checkError(t, "Open", e, api.OK)
	again, e := Open(l, acc, api.AccHouse)
	checkListError(t, "Open again", again, e, api.ErrThere)
	l, e = Status(l, "alfa", api.Suspended)
	checkError(t, "Status", e, api.OK)
	checkError(t, "ActTrade", May(l, acc, api.ActTrade), api.ErrState)
	checkError(t, "ActPay", May(l, acc, api.ActPay), api.OK)
	left, e := Status(l, "alfa", api.Left)
	checkListError(t, "Status to Left", left, e, api.ErrState)
}
