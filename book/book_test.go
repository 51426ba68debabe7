package book

import (
	"cmp"
	"fmt"
	"math"
	"math/rand"
	"slices"
	"testing"

	"contango/api"
	"contango/member"
	"contango/position"
	"contango/series"
)

var (
	ax = api.Acc{Member: "a", Name: "x"} // house
	ay = api.Acc{Member: "a", Name: "y"} // net
	ag = api.Acc{Member: "a", Name: "z"} // gross
	bx = api.Acc{Member: "b", Name: "x"} // net
	bg = api.Acc{Member: "b", Name: "y"} // gross
	no = api.Acc{Member: "b", Name: "no"}
)

var kinds = []int{api.AccHouse, api.AccNet, api.AccGross}

// noKinds are ints that are no kinds of accounts.
var noKinds = []int{math.MinInt, -1 << 32, -1, 0, 4, 5, 1 << 32, 1<<32 + 1, math.MaxInt}

// far are ints that are not between -MaxQty and MaxQty.
var far = []int{math.MinInt, math.MinInt + 1, -1 << 32, -api.MaxQty - 1, api.MaxQty + 1, 1 << 32, math.MaxInt}

// oil returns a series; a greater n makes a greater one.
func oil(n int) api.Series {
	return api.Series{Product: "oil", Kind: api.Future, Expiry: n}
}

// pos returns a position in oil.
func pos(n, long, short int) api.Position {
	return api.Position{Series: oil(n), Long: long, Short: short}
}

// leg returns a leg of so many lots of oil(n); sold ones if qty is negative.
func leg(acc api.Acc, n, qty int) api.Leg {
	return api.Leg{Acc: acc, Series: oil(n), Qty: qty}
}

// deal returns a trade in oil(n).
func deal(buyer, seller api.Acc, n, qty int) api.Trade {
	return api.Trade{Series: oil(n), Qty: qty, Buyer: buyer, Seller: seller}
}

// world returns the members of the accounts above; one of them has none.
func world() []api.Member {
	return []api.Member{
		{Name: "a", Status: api.Active, Accounts: []api.Account{{Name: "x", Kind: api.AccHouse}, {Name: "y", Kind: api.AccNet}, {Name: "z", Kind: api.AccGross}}},
		{Name: "b", Status: api.Suspended, Accounts: []api.Account{{Name: "x", Kind: api.AccNet}, {Name: "y", Kind: api.AccGross}}},
		{Name: "c", Status: api.Left},
	}
}

// accounts are all accounts of world.
var accounts = []api.Acc{ax, ay, ag, bx, bg}

// newBook returns a book of world.
func newBook(t *testing.T) *Book {
	t.Helper()
	b, e := New(world())
	if b == nil || e != api.OK {
		t.Fatalf("New: %v, error %d", b, e)
	}
	return b
}

// filled returns a book of world with those positions.
func filled(t *testing.T, held ...api.Holding) *Book {
	t.Helper()
	b := newBook(t)
	for _, h := range held {
		fill(t, b, h)
	}
	return b
}

// fill gives an account positions; only in a gross account both sides of one remain.
func fill(t *testing.T, b *Book, h api.Holding) {
	t.Helper()
	for _, p := range h.Positions {
		for _, qty := range []int{p.Long, -p.Short} {
			if qty == 0 {
				continue
			}
			if e := b.Do(api.Leg{Acc: h.Acc, Series: p.Series, Qty: qty}, 0); e != api.OK {
				t.Fatalf("%v of %v: error %d", qty, h.Acc, e)
			}
		}
	}
}

// holding returns what an account has.
func holding(acc api.Acc, l ...api.Position) api.Holding {
	return api.Holding{Acc: acc, Positions: l}
}

func sameHoldings(a, b []api.Holding) bool {
	return slices.EqualFunc(a, b, func(x, y api.Holding) bool {
		return x.Acc == y.Acc && slices.Equal(x.Positions, y.Positions)
	})
}

// state is all that can be observed of a book.
type state struct {
	all    []api.Holding
	series []api.Series
	flat   bool
}

func observed(b *Book) state {
	return state{b.All(), b.Series(), b.Flat()}
}

func (s state) equals(other state) bool {
	return sameHoldings(s.all, other.all) && slices.Equal(s.series, other.series) && s.flat == other.flat
}

func checkError(t *testing.T, what string, e, want api.Errno) {
	t.Helper()
	if e != want {
		t.Errorf("%s: error %d; want %d", what, e, want)
	}
}

// checkAll holds what all accounts have.
func checkAll(t *testing.T, what string, b *Book, want ...api.Holding) {
	t.Helper()
	if l := b.All(); !sameHoldings(l, want) {
		t.Errorf("%s: %v; want %v", what, l, want)
	}
}

// checkRefused holds that an operation returns an error and changes nothing.
func checkRefused(t *testing.T, what string, b *Book, do func() api.Errno, want api.Errno) {
	t.Helper()
	before := observed(b)
	checkError(t, what, do(), want)
	if after := observed(b); !after.equals(before) {
		t.Errorf("%s: %v; before it %v", what, after, before)
	}
}

// P16.1: all accounts, each with its kind and without positions.
func TestNew(t *testing.T) {
	b := newBook(t)
	checkAll(t, "a new book", b)
	if l := b.Series(); len(l) != 0 || !b.Flat() {
		t.Errorf("a new book: series %v, flat %t", l, b.Flat())
	}
	for _, acc := range accounts {
		checkError(t, fmt.Sprint("again ", acc), b.Add(acc, api.AccNet), api.ErrThere)
		if l := b.Of(acc); len(l) != 0 {
			t.Errorf("%v: %v", acc, l)
		}
	}
	for _, acc := range []api.Acc{no, {Member: "c", Name: "x"}, {Member: "a"}, {Name: "x"}, {Member: "x", Name: "a"}, {Member: "ax"}, {}} {
		checkError(t, fmt.Sprint("a leg of ", acc), b.Do(leg(acc, 1, 1), 0), api.ErrAccount)
	}
	for _, l := range [][]api.Member{nil, {}, {{Name: "a", Status: api.Active}}} {
		empty, e := New(l)
		if empty == nil || e != api.OK || !empty.Flat() || empty.Add(ax, api.AccHouse) != api.OK {
			t.Errorf("New(%v): %v, error %d", l, empty, e)
		}
	}
}

// P16.1: in a gross account both sides stand side by side, in the others they offset each other.
func TestNewKinds(t *testing.T) {
	b := newBook(t)
	for _, acc := range accounts {
		for _, qty := range []int{2, -3} {
			checkError(t, fmt.Sprint(qty, " of ", acc), b.Do(leg(acc, 1, qty), 0), api.OK)
		}
	}
	net, gross := pos(1, 0, 1), pos(1, 2, 3)
	checkAll(t, "both sides", b, holding(ax, net), holding(ay, net), holding(ag, gross), holding(bx, net), holding(bg, gross))
}

// P16.1: the errors of member.Check.
func TestNewErrors(t *testing.T) {
	for what, spoil := range map[string]func(l []api.Member) []api.Member{
		"too many":     func(l []api.Member) []api.Member { return make([]api.Member, api.MaxMembers+1) },
		"a name":       func(l []api.Member) []api.Member { l[0].Name = "A"; return l },
		"names":        func(l []api.Member) []api.Member { l[1].Name = "a"; return l },
		"a status":     func(l []api.Member) []api.Member { l[2].Status = 5; return l },
		"accounts":     func(l []api.Member) []api.Member { l[2].Accounts = make([]api.Account, api.MaxAccounts+1); return l },
		"an account":   func(l []api.Member) []api.Member { l[0].Accounts[0].Name = ""; return l },
		"two accounts": func(l []api.Member) []api.Member { l[0].Accounts[1].Name = "x"; return l },
		"a kind":       func(l []api.Member) []api.Member { l[1].Accounts[1].Kind = 4; return l },
	} {
		l := spoil(world())
		want := member.Check(l)
		if want == api.OK {
			t.Fatalf("%s: the list is valid", what)
		}
		b, e := New(l)
		checkError(t, what, e, want)
		if b != nil {
			t.Errorf("%s: %v; want nil", what, b)
		}
	}
}

// P16.1: the members are not retained.
func TestNewRetainsNothing(t *testing.T) {
	l := world()
	b, _ := New(l)
	l[0].Name, l[0].Accounts[0].Name, l[0].Accounts[2].Kind = "q", "q", api.AccNet
	for _, qty := range []int{1, -1} {
		checkError(t, "of a member that was renamed", b.Do(leg(ax, 1, 1), 0), api.OK)
		checkError(t, "of a kind that was changed", b.Do(leg(ag, 1, qty), 0), api.OK)
	}
	checkAll(t, "the kinds that they had", b, holding(ax, pos(1, 2, 0)), holding(ag, pos(1, 1, 1)))
}

// P16.1
func TestAdd(t *testing.T) {
	for i, acc := range []api.Acc{no, {Member: "new", Name: "x"}, {}, {Member: " ", Name: "?"}, {Member: "a"}, {Name: "a"}, {Member: "ax"}, {Name: "ax"}} {
		b, kind := newBook(t), kinds[i%3]
		checkError(t, fmt.Sprint(acc), b.Add(acc, kind), api.OK)
		checkAll(t, "an account without positions", b)
		for _, again := range kinds {
			checkRefused(t, fmt.Sprint("again ", acc), b, func() api.Errno { return b.Add(acc, again) }, api.ErrThere)
		}
		for _, qty := range []int{2, -3} {
			checkError(t, fmt.Sprint("a leg of ", acc), b.Do(leg(acc, 1, qty), 0), api.OK)
		}
		want := pos(1, 0, 1)
		if kind == api.AccGross {
			want = pos(1, 2, 3)
		}
		checkAll(t, fmt.Sprint("as its kind says ", acc), b, holding(acc, want))
	}
}

// P16.1: the kind is checked ahead of the name.
func TestAddErrors(t *testing.T) {
	b := filled(t, holding(ax, pos(1, 3, 0)))
	for _, kind := range noKinds {
		checkRefused(t, fmt.Sprint("kind ", kind), b, func() api.Errno { return b.Add(no, kind) }, api.ErrAccount)
		checkRefused(t, fmt.Sprint("kind and name ", kind), b, func() api.Errno { return b.Add(ax, kind) }, api.ErrAccount)
	}
	checkError(t, "still not there", b.Do(leg(no, 1, 1), 0), api.ErrAccount)
	checkRefused(t, "there with lots", b, func() api.Errno { return b.Add(ax, api.AccGross) }, api.ErrThere)
	checkError(t, "the other side", b.Do(leg(ax, 1, -1), 0), api.OK)
	checkAll(t, "still of its kind", b, holding(ax, pos(1, 2, 0)))
}

// P16.2
func TestDo(t *testing.T) {
	b := newBook(t)
	for _, c := range []struct {
		leg    api.Leg
		closes int
		want   api.Position // of oil(1) of the leg's account
	}{
		{leg(ax, 1, 5), 0, pos(1, 5, 0)},
		{leg(ax, 1, -7), 99, pos(1, 0, 2)}, // closes plays no part in a net account
		{leg(ax, 1, 5), -1, pos(1, 3, 0)},
		{leg(ax, 2, 9), 0, pos(1, 3, 0)},
		{leg(bg, 1, 5), 0, pos(1, 5, 0)},
		{leg(bg, 1, -4), 1, pos(1, 4, 3)},
		{leg(bg, 1, 5), 3, pos(1, 6, 0)},
		{leg(ax, 1, -3), 0, pos(1, 0, 0)},
	} {
		what := fmt.Sprint(c.leg, " closing ", c.closes)
		checkError(t, what, b.Do(c.leg, c.closes), api.OK)
		if p := position.Find(b.Of(c.leg.Acc), oil(1)); p != c.want {
			t.Errorf("%s: %v; want %v", what, p, c.want)
		}
	}
	checkAll(t, "after all", b, holding(ax, pos(2, 9, 0)), holding(bg, pos(1, 6, 0)))
	odd := api.Leg{Acc: ay, Series: api.Series{Product: "?", Kind: 9, Expiry: -7}, Qty: 1, Price: math.MinInt, Trade: -1}
	checkError(t, "an odd leg", b.Do(odd, 0), api.OK)
	if l := b.Of(ay); len(l) != 1 || l[0] != (api.Position{Series: odd.Series, Long: 1}) {
		t.Errorf("an odd leg: %v", l)
	}
}

// full returns MaxSeries positions, of oil(0) and so on.
func full() (l []api.Position) {
	for i := range api.MaxSeries {
		l = append(l, pos(i, 1, 0))
	}
	return l
}

// P16.2: the account is checked first; then the errors of position.Apply.
func TestDoErrors(t *testing.T) {
	const most = api.MaxQty
	b := filled(t, holding(ax, pos(1, most, 0)), holding(ay, full()...), holding(bg, pos(1, 4, 2)))
	for _, c := range []struct {
		leg    api.Leg
		closes int
		e      api.Errno
	}{
		{leg(no, 1, 1), 0, api.ErrAccount},
		{leg(no, 1, 0), 5, api.ErrAccount},
		{leg(api.Acc{}, 1, 1), 0, api.ErrAccount},
		{leg(ax, 1, 0), 0, api.ErrQty},
		{leg(ax, 1, 1), 0, api.ErrQty},
		{leg(ax, 2, most+1), 0, api.ErrQty},
		{leg(ax, 2, math.MinInt), 0, api.ErrQty},
		{leg(ay, api.MaxSeries, 1), 0, api.ErrLong},
		{leg(bg, 1, 4), -1, api.ErrQty},
		{leg(bg, 1, 2), 3, api.ErrQty},
		{leg(bg, 1, 4), 3, api.ErrOpen},
		{leg(bg, 1, -6), 5, api.ErrOpen},
		{leg(bg, 3, 1), 1, api.ErrOpen},
		{leg(bg, 1, most), 0, api.ErrQty},
	} {
		checkRefused(t, fmt.Sprint(c.leg, " closing ", c.closes), b, func() api.Errno { return b.Do(c.leg, c.closes) }, c.e)
	}
}

// P16.2
func TestTrade(t *testing.T) {
	b := newBook(t)
	for _, c := range []struct {
		trade api.Trade
		want  []api.Holding
	}{
		{deal(ax, bx, 1, 3), []api.Holding{holding(ax, pos(1, 3, 0)), holding(bx, pos(1, 0, 3))}},
		{deal(bx, ag, 1, 2), []api.Holding{holding(ax, pos(1, 3, 0)), holding(ag, pos(1, 0, 2)), holding(bx, pos(1, 0, 1))}},
		{deal(ag, bx, 1, 2), []api.Holding{holding(ax, pos(1, 3, 0)), holding(ag, pos(1, 2, 2)), holding(bx, pos(1, 0, 3))}}, // a gross account closes none
		{deal(bx, ax, 1, 3), []api.Holding{holding(ag, pos(1, 2, 2))}},
		{deal(ag, ag, 1, 1), []api.Holding{holding(ag, pos(1, 3, 3))}}, // both sides of one account
		{deal(ay, ay, 1, 1), []api.Holding{holding(ag, pos(1, 3, 3))}},
		{deal(ay, bg, 2, -4), []api.Holding{holding(ay, pos(2, 0, 4)), holding(ag, pos(1, 3, 3)), holding(bg, pos(2, 4, 0))}}, // as novate.Legs has it
	} {
		checkError(t, fmt.Sprint(c.trade), b.Trade(c.trade), api.OK)
		checkAll(t, fmt.Sprint("after ", c.trade), b, c.want...)
	}
	odd := api.Trade{Id: math.MinInt, Day: -1, Time: -1, Series: oil(1), Qty: 1, Price: math.MaxInt, Buyer: ax, Seller: bx}
	checkError(t, "an odd trade", b.Trade(odd), api.OK)
	checkAll(t, "an odd trade", b, holding(ax, pos(1, 1, 0)), holding(ay, pos(2, 0, 4)), holding(ag, pos(1, 3, 3)), holding(bx, pos(1, 0, 1)), holding(bg, pos(2, 4, 0)))
}

// P16.2: as many lots as a side may have.
func TestTradeMost(t *testing.T) {
	const most = api.MaxQty
	b := newBook(t)
	checkError(t, "most", b.Trade(deal(ax, bg, 1, most)), api.OK)
	checkAll(t, "most", b, holding(ax, pos(1, most, 0)), holding(bg, pos(1, 0, most)))
	checkError(t, "most, the other way", b.Trade(deal(ax, bx, 1, -most)), api.OK)
	checkAll(t, "most, the other way", b, holding(bx, pos(1, most, 0)), holding(bg, pos(1, 0, most)))
}

// P16.2: both legs or neither; the accounts are checked first, and the buyer's leg before the seller's.
func TestTradeErrors(t *testing.T) {
	const most, late, later = api.MaxQty, api.MaxSeries, api.MaxSeries + 1
	b := filled(t,
		holding(ax, pos(1, most, 0), pos(late, most, 0)), holding(ay, full()...), holding(ag, pos(1, most, most-1)),
		holding(bx, pos(1, 0, most)), holding(bg, pos(1, 0, most), pos(late, 0, most)))
	for _, c := range []struct {
		trade api.Trade
		e     api.Errno
	}{
		{deal(no, bx, 2, 1), api.ErrAccount},
		{deal(bx, no, 2, 1), api.ErrAccount},
		{deal(no, no, 2, 1), api.ErrAccount},
		{deal(no, bx, 1, 0), api.ErrAccount},
		{deal(ax, no, 1, 1), api.ErrAccount}, // ahead of what the buyer's leg would return
		{deal(ax, bg, 2, 0), api.ErrQty},
		{deal(ax, bg, 2, most+1), api.ErrQty},
		{deal(ax, bg, 2, -most-1), api.ErrQty},
		{deal(ax, bg, 2, math.MinInt), api.ErrQty},
		{deal(ax, bg, 2, math.MaxInt), api.ErrQty},
		{deal(ax, bx, 1, 1), api.ErrQty},      // the buyer's leg
		{deal(ay, bg, 1, 2), api.ErrQty},      // the seller's leg; the buyer's is taken back
		{deal(bx, bg, 1, 2), api.ErrQty},      // likewise, where the buyer had the other side
		{deal(bx, ay, later, 1), api.ErrLong}, // likewise, where the buyer had no such position
		{deal(ay, bx, later, 1), api.ErrLong}, // the buyer's leg
		{deal(ax, ay, late, 1), api.ErrQty},   // the buyer's leg, where the seller's would return ErrLong
		{deal(ay, bg, late, 1), api.ErrLong},  // the buyer's leg, where the seller's would return ErrQty
		{deal(ax, bg, 1, 1), api.ErrQty},      // both
	} {
		checkRefused(t, fmt.Sprint(c.trade), b, func() api.Errno { return b.Trade(c.trade) }, c.e)
	}
}

// P16.2: an account that is both buyer and seller has the seller's leg applied after the buyer's one.
func TestTradeWithItself(t *testing.T) {
	const most = api.MaxQty
	for _, c := range []struct {
		acc  api.Acc
		held []api.Position
		qty  int
		e    api.Errno
		want []api.Position
	}{
		{ax, nil, 5, api.OK, nil},
		{ax, []api.Position{pos(1, 0, most)}, 1, api.OK, []api.Position{pos(1, 0, most)}}, // there is room after the buyer's leg
		{ax, []api.Position{pos(1, most, 0)}, 1, api.ErrQty, []api.Position{pos(1, most, 0)}},
		{ax, []api.Position{pos(1, most, 0)}, -1, api.OK, []api.Position{pos(1, most, 0)}},
		{ag, []api.Position{pos(1, most-1, most-1)}, 1, api.OK, []api.Position{pos(1, most, most)}},
		{ag, []api.Position{pos(1, 1, most)}, 1, api.ErrQty, []api.Position{pos(1, 1, most)}},
		{ag, nil, 2, api.OK, []api.Position{pos(1, 2, 2)}},
	} {
		b := filled(t, holding(c.acc, c.held...))
		what := fmt.Sprintf("%d lots of %v, which has %v", c.qty, c.acc, c.held)
		checkError(t, what, b.Trade(deal(c.acc, c.acc, 1, c.qty)), c.e)
		if l := b.Of(c.acc); !slices.Equal(l, c.want) {
			t.Errorf("%s: %v; want %v", what, l, c.want)
		}
	}
}

// P16.3: the kind of the second account counts.
func TestMove(t *testing.T) {
	for _, c := range []struct {
		from, to    api.Acc
		have, had   []api.Position
		long, short int
		left, moved []api.Position
	}{
		{ax, ay, []api.Position{pos(1, 3, 0)}, nil, 2, 0, []api.Position{pos(1, 1, 0)}, []api.Position{pos(1, 2, 0)}},
		{ax, ay, []api.Position{pos(1, 3, 0), pos(2, 1, 0)}, []api.Position{pos(1, 0, 2)}, 3, 0, []api.Position{pos(2, 1, 0)}, []api.Position{pos(1, 1, 0)}},
		{ax, ag, []api.Position{pos(1, 3, 0)}, []api.Position{pos(1, 1, 2)}, 3, 0, nil, []api.Position{pos(1, 4, 2)}},
		{ag, bx, []api.Position{pos(1, 3, 2)}, nil, 3, 1, []api.Position{pos(1, 0, 1)}, []api.Position{pos(1, 2, 0)}},
		{ag, bg, []api.Position{pos(1, 3, 2)}, nil, 3, 2, nil, []api.Position{pos(1, 3, 2)}},
		{bx, ax, []api.Position{pos(1, 0, 4)}, []api.Position{pos(0, 1, 0), pos(1, 4, 0), pos(5, 1, 0)}, 0, 4, nil, []api.Position{pos(0, 1, 0), pos(5, 1, 0)}},
	} {
		b := filled(t, holding(c.from, c.have...), holding(c.to, c.had...))
		what := fmt.Sprintf("%d and %d from %v of %v to %v of %v", c.long, c.short, c.have, c.from, c.had, c.to)
		checkError(t, what, b.Move(c.from, c.to, oil(1), c.long, c.short), api.OK)
		if l := b.Of(c.from); !slices.Equal(l, c.left) {
			t.Errorf("%s: %v is left; want %v", what, l, c.left)
		}
		if l := b.Of(c.to); !slices.Equal(l, c.moved) {
			t.Errorf("%s: %v has been moved; want %v", what, l, c.moved)
		}
	}
}

// P16.3: the accounts are checked first; then the errors of position.Move.
func TestMoveErrors(t *testing.T) {
	const most = api.MaxQty
	b := filled(t, holding(ax, pos(1, 3, 0), pos(api.MaxSeries, 1, 0)), holding(ay, full()...), holding(ag, pos(1, 3, 2)), holding(bx, pos(1, most, 0)))
	for _, c := range []struct {
		from, to       api.Acc
		n, long, short int
		e              api.Errno
	}{
		{no, ax, 1, 1, 0, api.ErrAccount},
		{ax, no, 1, 1, 0, api.ErrAccount},
		{no, no, 1, 1, 0, api.ErrAccount},
		{ax, ax, 1, 1, 0, api.ErrAccount},
		{ax, ax, 1, 0, 0, api.ErrAccount},
		{ax, no, 1, -1, 0, api.ErrAccount},
		{no, ax, 1, 4, 0, api.ErrAccount},
		{ax, bg, 1, 0, 0, api.ErrQty},
		{ax, bg, 1, -1, 4, api.ErrQty},
		{ax, bg, 1, 4, -1, api.ErrQty},
		{ax, bg, 1, most + 1, 0, api.ErrQty},
		{ax, bg, 1, 0, math.MaxInt, api.ErrQty},
		{ax, bg, 1, math.MinInt, 0, api.ErrQty},
		{ax, bg, 1, 4, 0, api.ErrOpen},
		{ax, bg, 1, 3, 1, api.ErrOpen},
		{ax, bg, 9, 1, 0, api.ErrOpen},
		{bg, ax, 1, 1, 0, api.ErrOpen},
		{ag, ax, 1, 0, 3, api.ErrOpen},
		{ax, bx, 1, 4, 0, api.ErrOpen},
		{ax, bx, 1, 1, 0, api.ErrQty},
		{ag, bx, 1, 1, 2, api.ErrQty}, // the bought lots come first
		{ax, ay, api.MaxSeries, 1, 0, api.ErrLong},
	} {
		what := fmt.Sprintf("%d and %d of series %d from %v to %v", c.long, c.short, c.n, c.from, c.to)
		checkRefused(t, what, b, func() api.Errno { return b.Move(c.from, c.to, oil(c.n), c.long, c.short) }, c.e)
	}
	for _, n := range far {
		checkRefused(t, fmt.Sprint(n, " long"), b, func() api.Errno { return b.Move(ax, bg, oil(1), n, 0) }, api.ErrQty)
		checkRefused(t, fmt.Sprint(n, " short"), b, func() api.Errno { return b.Move(ax, bg, oil(1), 1, n) }, api.ErrQty)
	}
}

// P16.4
func TestOf(t *testing.T) {
	b := filled(t, holding(ax, pos(2, 3, 0), pos(1, 0, 4)), holding(bg, pos(1, 5, 6)))
	for acc, want := range map[api.Acc][]api.Position{
		ax: {pos(1, 0, 4), pos(2, 3, 0)}, bg: {pos(1, 5, 6)}, ay: nil, no: nil, {}: nil, {Member: "a"}: nil, {Name: "x"}: nil,
	} {
		if l := b.Of(acc); !slices.Equal(l, want) {
			t.Errorf("%v: %v; want %v", acc, l, want)
		}
	}
	l := b.Of(ax)
	l[0].Long, l[1].Series = 99, oil(77)
	_ = append(l[:1], pos(8, 8, 8))
	checkAll(t, "a result that was changed", b, holding(ax, pos(1, 0, 4), pos(2, 3, 0)), holding(bg, pos(1, 5, 6)))
}

// P16.4
func TestOpen(t *testing.T) {
	const most = api.MaxQty
	b := filled(t, holding(ax, pos(1, 3, 0), pos(2, 0, 9)), holding(ay, pos(1, 0, 4)), holding(ag, pos(1, 5, 6)), holding(bx, pos(3, 1, 0)), holding(bg, pos(1, most, most)))
	for n, want := range map[int][2]int{1: {8 + most, 10 + most}, 2: {0, 9}, 3: {1, 0}, 4: {0, 0}, -7: {0, 0}} {
		if long, short := b.Open(oil(n)); long != want[0] || short != want[1] {
			t.Errorf("series %d: %d and %d; want %v", n, long, short, want)
		}
	}
	for _, s := range []api.Series{{}, {Product: "gas", Kind: api.Future, Expiry: 1}, {Product: "oil", Kind: api.Call, Expiry: 1}, {Product: "oil", Kind: api.Future, Expiry: 1, Strike: 1}} {
		if long, short := b.Open(s); long != 0 || short != 0 {
			t.Errorf("%v differs in one field: %d and %d", s, long, short)
		}
	}
}

// P16.4: by member, then by name, byte by byte; accounts without positions are not among them.
func TestAll(t *testing.T) {
	accs := []api.Acc{{}, {Name: "z"}, {Member: "\x00"}, {Member: "B", Name: "a"}, {Member: "a", Name: ""}, ax, {Member: "a", Name: "xa"}, ay, {Member: "a0", Name: "a"}, {Member: "aa", Name: "a"}, {Member: "ab", Name: ""}, bx, {Member: "\xc3\xa4", Name: "a"}, {Member: "\xff", Name: ""}}
	r := rand.New(rand.NewSource(1))
	for range 50 {
		b, want := newBook(t), []api.Holding{}
		for _, i := range r.Perm(len(accs)) {
			if e := b.Add(accs[i], api.AccGross); e != api.OK && e != api.ErrThere {
				t.Fatal(e)
			}
			if i%5 != 4 {
				h := holding(accs[i], pos(i, i+1, 0), pos(90, 1, 0))
				fill(t, b, h)
				want = append(want, h)
			}
		}
		slices.SortFunc(want, func(x, y api.Holding) int {
			return slices.Index(accs, x.Acc) - slices.Index(accs, y.Acc)
		})
		checkAll(t, "all in order", b, want...)
	}
}

// P16.4: an account whose last lots are gone is not among all; results share no memory.
func TestAllIsNewMemory(t *testing.T) {
	b := filled(t, holding(ax, pos(1, 3, 0)), holding(bx, pos(1, 0, 3)))
	l := b.All()
	l[0].Acc, l[0].Positions[0].Long, l[1].Positions[0] = no, 99, pos(7, 7, 7)
	checkAll(t, "a result that was changed", b, holding(ax, pos(1, 3, 0)), holding(bx, pos(1, 0, 3)))
	checkError(t, "the last lots", b.Do(leg(ax, 1, -3), 0), api.OK)
	checkAll(t, "without the last lots", b, holding(bx, pos(1, 0, 3)))
	if l := b.Of(ax); len(l) != 0 {
		t.Errorf("without the last lots: %v", l)
	}
	checkError(t, "the account is there still", b.Add(ax, api.AccNet), api.ErrThere)
	checkError(t, "and takes lots", b.Trade(deal(bx, ax, 1, 3)), api.OK)
	checkAll(t, "the other side's last lots", b, holding(ax, pos(1, 0, 3)))
}

// P16.5: in every series.
func TestFlat(t *testing.T) {
	for what, c := range map[string]struct {
		held []api.Holding
		want bool
	}{
		"none":                    {nil, true},
		"one side":                {[]api.Holding{holding(ax, pos(1, 3, 0))}, false},
		"both sides":              {[]api.Holding{holding(ax, pos(1, 3, 0)), holding(bx, pos(1, 0, 3))}, true},
		"both of one account":     {[]api.Holding{holding(bg, pos(1, 3, 3))}, true},
		"of several":              {[]api.Holding{holding(ax, pos(1, 3, 0)), holding(ag, pos(1, 2, 4)), holding(bx, pos(1, 0, 1))}, true},
		"one lot too many":        {[]api.Holding{holding(ax, pos(1, 3, 0)), holding(ag, pos(1, 2, 4)), holding(bx, pos(1, 0, 2))}, false},
		"of two series":           {[]api.Holding{holding(ax, pos(1, 3, 0)), holding(bx, pos(2, 0, 3))}, false},
		"two that cancel":         {[]api.Holding{holding(ax, pos(1, 3, 0), pos(2, 0, 3)), holding(bx, pos(1, 0, 2), pos(2, 2, 0))}, false},
		"two of two":              {[]api.Holding{holding(ax, pos(1, 3, 0), pos(2, 0, 3)), holding(bx, pos(1, 0, 3), pos(2, 3, 0))}, true},
		"the last one of several": {[]api.Holding{holding(ax, pos(1, 3, 0), pos(2, 0, 3), pos(3, 1, 0)), holding(bx, pos(1, 0, 3), pos(2, 3, 0))}, false},
	} {
		if ok := filled(t, c.held...).Flat(); ok != c.want {
			t.Errorf("%s: flat is %t", what, ok)
		}
	}
}

// P16.5: ascending, each once; those alone of which there are lots.
func TestSeries(t *testing.T) {
	all := []api.Series{
		{Product: "gas", Kind: api.Put, Expiry: 90, Strike: 50}, oil(10), oil(20),
		{Product: "oil", Kind: api.Call, Expiry: 20, Strike: -50}, {Product: "oil", Kind: api.Call, Expiry: 20, Strike: 40}, {Product: "oil", Kind: api.Put, Expiry: 20, Strike: -60}, {Product: "oila", Kind: api.Future, Expiry: 5},
	}
	r := rand.New(rand.NewSource(2))
	for range 100 {
		b, want := newBook(t), []api.Series{}
		for _, i := range r.Perm(len(all)) {
			takers := r.Perm(len(accounts))[:r.Intn(3)]
			for _, j := range takers {
				fill(t, b, holding(accounts[j], api.Position{Series: all[i], Long: i % 2, Short: 1 - i%2}))
			}
			if len(takers) > 0 {
				want = append(want, all[i])
			}
		}
		slices.SortFunc(want, series.Compare)
		l := b.Series()
		if !slices.Equal(l, want) {
			t.Fatalf("%v; want %v", l, want)
		}
		for i := range l {
			l[i] = api.Series{}
		}
		if !slices.Equal(b.Series(), want) {
			t.Fatal("a result that was changed has changed the book")
		}
	}
	b := filled(t, holding(ax, pos(1, 3, 0), pos(2, 3, 0)))
	checkError(t, "the last lots", b.Do(leg(ax, 1, -3), 0), api.OK)
	if l := b.Series(); !slices.Equal(l, []api.Series{oil(2)}) {
		t.Errorf("without the last lots: %v", l)
	}
}

// P16.5: whatever is done to one of both, the other one remains as it is.
func TestClone(t *testing.T) {
	for i := range 2 {
		b := filled(t, holding(ax, pos(1, 3, 0), pos(2, 0, 1)), holding(bx, pos(1, 0, 3)), holding(bg, pos(2, 4, 3)))
		changed, kept := b, b.Clone()
		if i == 1 {
			changed, kept = kept, changed
		}
		before := observed(changed)
		if !observed(kept).equals(before) {
			t.Fatalf("%v; want %v", observed(kept), before)
		}
		checkError(t, "a leg", changed.Do(leg(ax, 1, 2), 0), api.OK)
		checkError(t, "a trade", changed.Trade(deal(bx, ay, 1, 3)), api.OK)
		checkError(t, "a move", changed.Move(bg, ag, oil(2), 1, 1), api.OK)
		checkError(t, "another account", changed.Add(no, api.AccNet), api.OK)
		checkError(t, "and its lots", changed.Do(leg(no, 5, 2), 0), api.OK)
		if !observed(kept).equals(before) {
			t.Errorf("%v; want %v", observed(kept), before)
		}
		checkError(t, "an account that the other one has", kept.Do(leg(no, 5, 2), 0), api.ErrAccount)
		checkError(t, "a kind of its own", kept.Add(no, api.AccGross), api.OK)
		checkError(t, "the kinds that it had", kept.Do(leg(bg, 2, 1), 0), api.OK)
		checkAll(t, "its own lots", kept, holding(ax, pos(1, 3, 0), pos(2, 0, 1)), holding(bx, pos(1, 0, 3)), holding(bg, pos(2, 5, 3)))
	}
	c := newBook(t).Clone()
	checkAll(t, "of a new book", c)
	checkError(t, "with its accounts", c.Add(ax, api.AccNet), api.ErrThere)
}

// P16.6
func TestNil(t *testing.T) {
	var b *Book
	for what, e := range map[string]api.Errno{
		"Add": b.Add(ax, api.AccNet), "Add of no kind": b.Add(ax, 0), "Do": b.Do(leg(ax, 1, 1), 0), "Do of none": b.Do(api.Leg{}, -1),
		"Trade": b.Trade(deal(ax, bx, 1, 1)), "no Trade": b.Trade(api.Trade{}), "Move": b.Move(ax, bx, oil(1), 1, 0), "Move to itself": b.Move(ax, ax, oil(1), 0, 0),
	} {
		checkError(t, what, e, api.ErrNil)
	}
	long, short := b.Open(oil(1))
	if len(b.Of(ax)) != 0 || len(b.All()) != 0 || len(b.Series()) != 0 || long != 0 || short != 0 {
		t.Error("a query of nil returns something")
	}
	if b.Flat() || b.Clone() != nil {
		t.Error("nil is flat, or its clone is none")
	}
}

// randomQty returns mostly a few lots, now and then none or too many.
func randomQty(r *rand.Rand) int {
	if r.Intn(8) == 0 {
		return []int{0, -1, api.MaxQty - 2, api.MaxQty, api.MaxQty + 1, -api.MaxQty}[r.Intn(6)]
	}
	return 1 + r.Intn(5)
}

// P16.7, P16.8: trades and moves alone leave the book flat; what is rejected changes nothing.
func TestFlatAfterAnything(t *testing.T) {
	r := rand.New(rand.NewSource(3))
	accs := append(slices.Clone(accounts), no)
	done, refused := 0, 0
	for range 40 {
		b := newBook(t)
		for range 200 {
			x, y, n := accs[r.Intn(len(accs))], accs[r.Intn(len(accs))], r.Intn(4)
			before := observed(b)
			var e api.Errno
			if r.Intn(3) == 0 {
				e = b.Move(x, y, oil(n), randomQty(r), randomQty(r)-1)
			} else {
				e = b.Trade(deal(x, y, n, randomQty(r)))
			}
			after := observed(b)
			if !after.flat {
				t.Fatalf("not flat: %v; before it %v", after, before)
			}
			if e == api.OK {
				done++
				continue
			}
			refused++
			if !after.equals(before) {
				t.Fatalf("error %d: %v; before it %v", e, after, before)
			}
		}
	}
	if done < 1000 || refused < 1000 {
		t.Errorf("%d done, %d refused: too few of one of both", done, refused)
	}
}

// model is a book in another way: a list of accounts, on which package position works.
type model struct {
	accs  []api.Acc
	kinds []int
	held  [][]api.Position
}

func newModel() (m model) {
	for i, acc := range accounts {
		m.accs, m.kinds = append(m.accs, acc), append(m.kinds, []int{1, 2, 3, 2, 3}[i])
	}
	m.held = make([][]api.Position, len(accounts))
	return m
}

func (m *model) do(leg api.Leg, closes int) (e api.Errno) {
	i := slices.Index(m.accs, leg.Acc)
	if i < 0 {
		return api.ErrAccount
	}
	out, e := position.Apply(m.held[i], m.kinds[i], leg, closes)
	if e == api.OK {
		m.held[i] = out
	}
	return e
}

func (m *model) move(from, to api.Acc, s api.Series, long, short int) (e api.Errno) {
	i, j := slices.Index(m.accs, from), slices.Index(m.accs, to)
	if i < 0 || j < 0 || i == j {
		return api.ErrAccount
	}
	a, b, e := position.Move(m.held[i], m.held[j], m.kinds[j], s, long, short)
	if e == api.OK {
		m.held[i], m.held[j] = a, b
	}
	return e
}

func (m *model) all() (l []api.Holding) {
	for i, acc := range m.accs {
		if len(m.held[i]) > 0 {
			l = append(l, api.Holding{Acc: acc, Positions: m.held[i]})
		}
	}
	slices.SortFunc(l, func(x, y api.Holding) int {
		return cmp.Or(cmp.Compare(x.Acc.Member, y.Acc.Member), cmp.Compare(x.Acc.Name, y.Acc.Name))
	})
	return l
}

// P16.2 to P16.4: legs and moves do to each account what package position does.
func TestAgainstModel(t *testing.T) {
	r := rand.New(rand.NewSource(4))
	accs := append(slices.Clone(accounts), no)
	for range 40 {
		b, m := newBook(t), newModel()
		for range 150 {
			x, y, n := accs[r.Intn(len(accs))], accs[r.Intn(len(accs))], r.Intn(4)
			var e, want api.Errno
			if r.Intn(3) == 0 {
				long, short := randomQty(r), randomQty(r)-1
				e, want = b.Move(x, y, oil(n), long, short), m.move(x, y, oil(n), long, short)
			} else {
				one, closes := leg(x, n, randomQty(r)*(1-2*r.Intn(2))), r.Intn(3)
				e, want = b.Do(one, closes), m.do(one, closes)
			}
			checkError(t, "an operation", e, want)
			checkAll(t, "after an operation", b, m.all()...)
			long, short := 0, 0
			for _, l := range m.held {
				p := position.Find(l, oil(n))
				long, short = long+p.Long, short+p.Short
			}
			if gotLong, gotShort := b.Open(oil(n)); gotLong != long || gotShort != short {
				t.Fatalf("open: %d and %d; want %d and %d", gotLong, gotShort, long, short)
			}
		}
	}
}

// The example of the chapter.
func TestExample(t *testing.T) {
	x, y := api.Acc{Member: "a", Name: "x"}, api.Acc{Member: "b", Name: "y"}
	b, e := New([]api.Member{
		{Name: "a", Status: api.Active, Accounts: []api.Account{{Name: "x", Kind: api.AccNet}}},
		{Name: "b", Status: api.Active, Accounts: []api.Account{{Name: "y", Kind: api.AccNet}}},
	})
	checkError(t, "New", e, api.OK)
	checkError(t, "Trade", b.Trade(deal(x, y, 9576, 3)), api.OK)
	checkAll(t, "3 lots", b, holding(x, pos(9576, 3, 0)), holding(y, pos(9576, 0, 3)))
	if long, short := b.Open(oil(9576)); long != 3 || short != 3 || !b.Flat() {
		t.Errorf("open %d and %d, flat %t", long, short, b.Flat())
	}
	checkError(t, "Do", b.Do(leg(x, 9576, 1), 0), api.OK)
	if long, short := b.Open(oil(9576)); long != 4 || short != 3 || b.Flat() {
		t.Errorf("after 1 more: open %d and %d, flat %t", long, short, b.Flat())
	}
}
