package trade

import (
	"fmt"
	"math"
	"math/rand"
	"slices"
	"strings"
	"testing"

	"contango/api"
)

const top = api.MaxPrice

// far are ints at the ends of int and of its halves.
var far = []int{math.MinInt, math.MinInt + 1, -1 << 32, 1 << 32, 1<<32 + 1, math.MaxInt - 1, math.MaxInt}

// oilTrade is the trade of the chapter's examples.
func oilTrade() api.Trade {
	return api.Trade{
		Id: 7, Day: 5, Time: 60,
		Series: api.Series{Product: "oil", Kind: api.Future, Expiry: 20},
		Qty:    3, Price: 15,
		Buyer: api.Acc{Member: "a", Name: "x"}, Seller: api.Acc{Member: "b", Name: "y"},
	}
}

// market are valid products, with different ticks and bounds.
func market() []api.Product {
	return []api.Product{
		{Name: "gas", Mult: 10, Tick: 3, Low: 30, High: 90},
		{Name: "gold", Cur: 1, Mult: 10, Tick: 1, Low: -top, High: top, Physical: true},
		{Name: "oil", Mult: 100, Tick: 5, Low: -50, High: 1000},
	}
}

// people are valid members, one of each status and another Active one.
func people() (l []api.Member) {
	for i, status := range []int{api.Active, api.Active, api.Suspended, api.Defaulted, api.Left} {
		accounts := []api.Account{{Name: "x", Kind: api.AccHouse}, {Name: "y", Kind: api.AccGross}}
		l = append(l, api.Member{Name: string("abcde"[i]), Status: status, Accounts: accounts})
	}
	return l
}

// withIds returns trades with those Ids, in that order, that differ from each other in their quantities too.
func withIds(ids ...int) (l []api.Trade) {
	for i, id := range ids {
		t := oilTrade()
		t.Id, t.Qty = id, i+1
		l = append(l, t)
	}
	return l
}

// upTo returns trades with the Ids 1, 3, 5 and so on.
func upTo(n int) []api.Trade {
	var ids []int
	for i := range n {
		ids = append(ids, 2*i+1)
	}
	return withIds(ids...)
}

// oddTrade returns a trade of which nothing is valid.
func oddTrade() api.Trade {
	return api.Trade{Id: math.MinInt, Day: -1, Time: math.MaxInt, Series: api.Series{Product: "?", Kind: 9}, Qty: -4, Price: math.MinInt, Buyer: api.Acc{Name: " "}, Seller: api.Acc{Member: "\xff"}}
}

// randomTrade returns a valid trade of the market.
func randomTrade(r *rand.Rand) api.Trade {
	p := market()[r.Intn(3)]
	price := func() int { return p.Low + p.Tick*r.Intn((p.High-p.Low)/p.Tick+1) }
	s := api.Series{Product: p.Name, Kind: 1 + r.Intn(3), Expiry: r.Intn(api.MaxDay + 1)}
	if s.Kind != api.Future {
		s.Strike = price()
	}
	accs := []api.Acc{{Member: "a", Name: "x"}, {Member: "a", Name: "y"}, {Member: "b", Name: "x"}, {Member: "b", Name: "y"}}
	r.Shuffle(len(accs), func(i, j int) { accs[i], accs[j] = accs[j], accs[i] })
	return api.Trade{
		Id: 1 + r.Intn(api.MaxMoney)>>r.Intn(60), Day: r.Intn(s.Expiry + 1), Time: r.Intn(86400),
		Series: s, Qty: 1 + r.Intn(api.MaxQty), Price: price(), Buyer: accs[0], Seller: accs[1],
	}
}

func checkError(t *testing.T, what string, e, want api.Errno) {
	t.Helper()
	if e != want {
		t.Errorf("%s: error %d; want %d", what, e, want)
	}
}

func checkList(t *testing.T, what string, l []api.Trade, e api.Errno, want []api.Trade) {
	t.Helper()
	if e != api.OK || !slices.Equal(l, want) {
		t.Errorf("%s: %v, error %d; want %v", what, l, e, want)
	}
}

func checkListError(t *testing.T, what string, l []api.Trade, e, want api.Errno) {
	t.Helper()
	if e != want || len(l) != 0 {
		t.Errorf("%s: %v, error %d; want error %d", what, l, e, want)
	}
}

func checkParse(t *testing.T, text string, want api.Trade, wantE api.Errno) {
	t.Helper()
	if x, e := Parse(text); x != want || e != wantE {
		t.Errorf("%q: %v, error %d; want %v, error %d", text, x, e, want, wantE)
	}
}

// P12.1: each field at its bounds and beyond them.
func TestCheck(t *testing.T) {
	for _, c := range []struct {
		what   string
		change func(x *api.Trade)
		want   api.Errno
	}{
		{"as it is", func(x *api.Trade) {}, api.OK},
		{"the first day", func(x *api.Trade) { x.Day = 0 }, api.OK},
		{"the day of its expiry", func(x *api.Trade) { x.Day = 20 }, api.OK},
		{"the day after its expiry", func(x *api.Trade) { x.Day = 21 }, api.ErrDate},
		{"before the first day", func(x *api.Trade) { x.Day = -1 }, api.ErrDate},
		{"the last day", func(x *api.Trade) { x.Day, x.Series.Expiry = api.MaxDay, api.MaxDay }, api.OK},
		{"beyond the last day", func(x *api.Trade) { x.Day, x.Series.Expiry = api.MaxDay+1, api.MaxDay }, api.ErrDate},
		{"the first Id", func(x *api.Trade) { x.Id = 1 }, api.OK},
		{"the last Id", func(x *api.Trade) { x.Id = api.MaxMoney }, api.OK},
		{"no Id", func(x *api.Trade) { x.Id = 0 }, api.ErrArg},
		{"a negative Id", func(x *api.Trade) { x.Id = -1 }, api.ErrArg},
		{"an Id beyond", func(x *api.Trade) { x.Id = api.MaxMoney + 1 }, api.ErrArg},
		{"the first second", func(x *api.Trade) { x.Time = 0 }, api.OK},
		{"the last second", func(x *api.Trade) { x.Time = 86399 }, api.OK},
		{"a negative second", func(x *api.Trade) { x.Time = -1 }, api.ErrArg},
		{"a second beyond", func(x *api.Trade) { x.Time = 86400 }, api.ErrArg},
		{"one lot", func(x *api.Trade) { x.Qty = 1 }, api.OK},
		{"the most lots", func(x *api.Trade) { x.Qty = api.MaxQty }, api.OK},
		{"no lots", func(x *api.Trade) { x.Qty = 0 }, api.ErrQty},
		{"negative lots", func(x *api.Trade) { x.Qty = -1 }, api.ErrQty},
		{"one lot more", func(x *api.Trade) { x.Qty = api.MaxQty + 1 }, api.ErrQty},
		{"the least price", func(x *api.Trade) { x.Price = -50 }, api.OK},
		{"no price", func(x *api.Trade) { x.Price = 0 }, api.OK},
		{"the greatest price", func(x *api.Trade) { x.Price = 1000 }, api.OK},
		{"a price below", func(x *api.Trade) { x.Price = -55 }, api.ErrPrice},
		{"a price beyond", func(x *api.Trade) { x.Price = 1005 }, api.ErrPrice},
		{"a price beyond, between ticks", func(x *api.Trade) { x.Price = 1001 }, api.ErrPrice},
		{"a price between ticks", func(x *api.Trade) { x.Price = 17 }, api.ErrTick},
		{"another product's price", func(x *api.Trade) { x.Series.Product = "gas" }, api.ErrPrice},
		{"a price of another product", func(x *api.Trade) { x.Series.Product, x.Price = "gas", 33 }, api.OK},
		{"a call", func(x *api.Trade) { x.Series.Kind, x.Series.Strike = api.Call, -50 }, api.OK},
		{"a put at a price below 0", func(x *api.Trade) { x.Series.Kind, x.Price = api.Put, -5 }, api.OK},
		{"no such product", func(x *api.Trade) { x.Series.Product = "zinc" }, api.ErrSeries},
		{"no kind", func(x *api.Trade) { x.Series.Kind = 0 }, api.ErrSeries},
		{"no expiry", func(x *api.Trade) { x.Series.Expiry = api.MaxDay + 1 }, api.ErrDate},
		{"a strike of a future", func(x *api.Trade) { x.Series.Strike = 5 }, api.ErrPrice},
		{"a strike between ticks", func(x *api.Trade) { x.Series.Kind, x.Series.Strike = api.Call, 7 }, api.ErrPrice},
	} {
		x := oilTrade()
		c.change(&x)
		checkError(t, c.what, Check(x, market(), people()), c.want)
	}
	for _, n := range far {
		for want, x := range map[api.Errno]api.Trade{api.ErrDate: {Id: 7, Day: n, Qty: 1}, api.ErrArg: {Id: n, Qty: 1}, api.ErrQty: {Id: 7, Qty: n}, api.ErrPrice: {Id: 7, Qty: 1, Price: n}} {
			x.Series, x.Buyer, x.Seller = oilTrade().Series, oilTrade().Buyer, oilTrade().Seller
			if want == api.ErrArg && n > 0 && n <= api.MaxMoney { // an Id, though a far one
				want = api.OK
			}
			checkError(t, fmt.Sprint(x), Check(x, market(), people()), want)
		}
		x := oilTrade()
		x.Time = n
		checkError(t, fmt.Sprint("time ", n), Check(x, market(), people()), api.ErrArg)
	}
}

// P12.1, P12.6: who may buy and sell.
func TestCheckSides(t *testing.T) {
	for _, c := range []struct {
		buyer, seller string // a member, and its account
		want          api.Errno
	}{
		{"ax", "by", api.OK},
		{"by", "ax", api.OK},
		{"ax", "ay", api.OK}, // two accounts of one member
		{"ax", "bx", api.OK}, // two accounts of one name
		{"ax", "ax", api.ErrAccount},
		{"by", "by", api.ErrAccount},
		{"fx", "by", api.ErrMember},
		{"ax", "fy", api.ErrMember},
		{"az", "by", api.ErrAccount},
		{"ax", "bz", api.ErrAccount},
		{"cx", "by", api.ErrState},
		{"ax", "cy", api.ErrState},
		{"dx", "by", api.ErrState},
		{"ax", "dx", api.ErrState},
		{"ex", "by", api.ErrState},
		{"ax", "ex", api.ErrState},
		{"fx", "bz", api.ErrMember}, // the buyer's error is returned first
		{"az", "fx", api.ErrAccount},
		{"cx", "fx", api.ErrState},
		{"cx", "az", api.ErrState},
		{"fx", "cx", api.ErrMember},
		{"cx", "cx", api.ErrState}, // that both are one is named last
		{"fx", "fx", api.ErrMember},
	} {
		x := oilTrade()
		x.Buyer = api.Acc{Member: c.buyer[:1], Name: c.buyer[1:]}
		x.Seller = api.Acc{Member: c.seller[:1], Name: c.seller[1:]}
		checkError(t, c.buyer+" "+c.seller, Check(x, market(), people()), c.want)
		if e := Check(x, market(), people()); e == api.OK && x.Buyer == x.Seller {
			t.Errorf("%v sells to itself", x.Buyer)
		}
	}
}

// P12.1: of all combinations of faults the first one's error is returned.
func TestCheckOrder(t *testing.T) {
	type world struct {
		x        api.Trade
		products []api.Product
		members  []api.Member
	}
	faults := []struct {
		what  string
		spoil func(w *world)
		e     api.Errno
	}{
		{"products", func(w *world) { w.products[1].Mult = 0 }, api.ErrArg},
		{"series", func(w *world) { w.x.Series.Kind = 4 }, api.ErrSeries},
		{"day", func(w *world) { w.x.Day = 21 }, api.ErrDate},
		{"time", func(w *world) { w.x.Time = -1 }, api.ErrArg},
		{"qty", func(w *world) { w.x.Qty = 0 }, api.ErrQty},
		{"price", func(w *world) { w.x.Price = 11 }, api.ErrTick},
		{"members", func(w *world) { w.members[4].Name = "a" }, api.ErrThere},
		{"buyer's member", func(w *world) { w.x.Buyer.Member = "f" }, api.ErrMember},
		{"buyer's account", func(w *world) { w.x.Buyer.Name = "z" }, api.ErrAccount},
		{"buyer's status", func(w *world) { w.members[0].Status = api.Suspended }, api.ErrState},
		{"seller's member", func(w *world) { w.x.Seller.Member = "g" }, api.ErrMember},
		{"seller's account", func(w *world) { w.x.Seller.Name = "v" }, api.ErrAccount},
		{"seller's status", func(w *world) { w.members[1].Status = api.Left }, api.ErrState},
	}
	for set := range 1 << len(faults) {
		w, want := world{oilTrade(), market(), people()}, api.OK
		for i, f := range faults {
			if set>>i&1 == 1 {
				f.spoil(&w)
				if want == api.OK {
					want = f.e
				}
			}
		}
		checkError(t, fmt.Sprintf("faults %013b", set), Check(w.x, w.products, w.members), want)
	}
}

// P12.1: the errors of the lists of products and members, of any element.
func TestCheckLists(t *testing.T) {
	x := oilTrade()
	checkError(t, "no products", Check(x, nil, people()), api.ErrSeries)
	checkError(t, "no members", Check(x, market(), nil), api.ErrMember)
	products := market()
	products[0], products[1] = products[1], products[0]
	checkError(t, "products out of order", Check(x, products, people()), api.ErrThere)
	checkError(t, "too many products", Check(x, slices.Repeat(market(), 11), people()), api.ErrLong)
	checkError(t, "too many members", Check(x, market(), slices.Repeat(people(), 7)), api.ErrLong)
	members := people()
	members[4].Accounts[1].Kind = 9
	checkError(t, "another member's account", Check(x, market(), members), api.ErrAccount)
	members = people()
	members[3].Status = 0
	checkError(t, "another member's status", Check(x, market(), members), api.ErrState)
	x.Price = 11
	checkError(t, "a price ahead of the members", Check(x, market(), members), api.ErrTick)
}

// P12.1, P12.5: random valid trades, which are parsed as they were printed.
func TestValidTrades(t *testing.T) {
	r := rand.New(rand.NewSource(121))
	for range 5000 {
		x := randomTrade(r)
		checkError(t, fmt.Sprint(x), Check(x, market(), people()), api.OK)
		checkParse(t, Print(x), x, api.OK)
	}
}

// P12.2: at the front, in between and at the end.
func TestAdd(t *testing.T) {
	for _, c := range []struct {
		before []int
		id     int
		place  int
	}{
		{nil, 7, 0},
		{[]int{8}, 7, 0},
		{[]int{6}, 7, 1},
		{[]int{1, 3}, 0, 0},
		{[]int{1, 3}, 2, 1},
		{[]int{1, 3}, 4, 2},
		{[]int{-5, 0, 5}, -6, 0},
		{[]int{-5, 0, 5}, -1, 1},
		{[]int{math.MinInt, math.MaxInt}, 0, 1},
		{[]int{0}, math.MinInt, 0},
		{[]int{0}, math.MaxInt, 1},
		{[]int{9, 1, 8}, 5, 0}, // not ascending: before the first that is greater
		{[]int{1, 9, 2, 8}, 5, 1},
		{[]int{3, 2, 1}, 5, 3},
		{[]int{4, 4, 6, 6}, 5, 2},
	} {
		x := oddTrade()
		x.Id = c.id
		l, e := Add(withIds(c.before...), x)
		checkList(t, fmt.Sprint(c.before, " and ", c.id), l, e, slices.Insert(withIds(c.before...), c.place, x))
	}
}

// P12.2: ErrLong ahead of ErrThere, and the last trade that has room.
func TestAddErrors(t *testing.T) {
	for _, id := range []int{0, 2, 1000, 5000} {
		x := oilTrade()
		x.Id = id
		l, e := Add(upTo(api.MaxList-1), x)
		if e != api.OK || len(l) != api.MaxList {
			t.Errorf("the last that has room: %d trades, error %d", len(l), e)
		}
		for _, length := range []int{api.MaxList, api.MaxList + 1, 3 * api.MaxList} {
			l, e = Add(upTo(length), x)
			checkListError(t, "one more", l, e, api.ErrLong)
			l, e = Add(upTo(length), upTo(1)[0])
			checkListError(t, "one more, which is there", l, e, api.ErrLong)
		}
	}
	for i, x := range upTo(api.MaxList - 1) {
		if i%100 == 0 || i == api.MaxList-2 {
			x.Price, x.Qty = 0, 0 // only the Id is the same
			l, e := Add(upTo(api.MaxList-1), x)
			checkListError(t, fmt.Sprint("Id ", x.Id), l, e, api.ErrThere)
		}
	}
	for _, ids := range [][]int{{9, 5}, {5, 9}, {7, 5, 3, 5}} { // not ascending
		l, e := Add(withIds(ids...), withIds(5)[0])
		checkListError(t, fmt.Sprint(ids), l, e, api.ErrThere)
	}
}

// P12.2
func TestFind(t *testing.T) {
	l := withIds(5, 1, 5, 0, math.MinInt)
	for id, place := range map[int]int{5: 0, 1: 1, 0: 3, math.MinInt: 4} {
		if x, ok := Find(l, id); !ok || x != l[place] {
			t.Errorf("%d: %v, %t", id, x, ok)
		}
	}
	for _, id := range []int{2, -5, 6, math.MaxInt} {
		if x, ok := Find(l, id); ok || x != (api.Trade{}) {
			t.Errorf("%d: %v, %t", id, x, ok)
		}
	}
	if x, ok := Find(nil, 0); ok || x != (api.Trade{}) {
		t.Errorf("in no list: %v, %t", x, ok)
	}
	if x, ok := Find(upTo(3*api.MaxList), 6*api.MaxList-1); !ok || x.Qty != 3*api.MaxList {
		t.Errorf("the last of many: %v, %t", x, ok)
	}
}

// P12.2
func TestBust(t *testing.T) {
	for _, c := range []struct {
		ids   []int
		id    int
		place int
	}{
		{[]int{7}, 7, 0},
		{[]int{1, 2, 3}, 1, 0},
		{[]int{1, 2, 3}, 2, 1},
		{[]int{1, 2, 3}, 3, 2},
		{[]int{5, 1, 5, 0}, 5, 0}, // the first of two
		{[]int{5, 1, 5, 0}, 0, 3},
		{[]int{math.MaxInt, math.MinInt}, math.MinInt, 1},
	} {
		all := withIds(c.ids...)
		l, x, e := Bust(withIds(c.ids...), c.id)
		checkList(t, fmt.Sprint(c.ids, " without ", c.id), l, e, slices.Delete(withIds(c.ids...), c.place, c.place+1))
		if x != all[c.place] {
			t.Errorf("%v without %d: %v", c.ids, c.id, x)
		}
		for _, id := range []int{4, -7, 8, math.MaxInt - 1} {
			l, x, e := Bust(withIds(c.ids...), id)
			checkListError(t, fmt.Sprint(c.ids, " without ", id), l, e, api.ErrTrade)
			if x != (api.Trade{}) {
				t.Errorf("%v beside an error", x)
			}
		}
	}
	l, x, e := Bust(nil, 0)
	checkListError(t, "of none", l, e, api.ErrTrade)
	if x != (api.Trade{}) {
		t.Errorf("%v beside an error", x)
	}
	l, _, e = Bust(upTo(3*api.MaxList), 6*api.MaxList-1)
	checkList(t, "the last of many", l, e, upTo(3*api.MaxList-1))
}

// P12.5: an inserted trade is found, and busting it restores the list, ascending or not.
func TestAddAndBust(t *testing.T) {
	r := rand.New(rand.NewSource(125))
	for range 3000 {
		var ids []int
		for range r.Intn(12) {
			ids = append(ids, r.Intn(20))
		}
		if r.Intn(2) == 0 {
			slices.Sort(ids)
		}
		before, x := withIds(ids...), randomTrade(r)
		x.Id = r.Intn(20)
		l, e := Add(before, x)
		if slices.Contains(ids, x.Id) {
			checkListError(t, fmt.Sprint(ids), l, e, api.ErrThere)
			continue
		}
		if y, ok := Find(l, x.Id); !ok || y != x {
			t.Errorf("%v is not found", x)
		}
		if slices.IsSorted(ids) && !slices.IsSortedFunc(l, func(a, b api.Trade) int { return a.Id - b.Id }) {
			t.Errorf("%v does not ascend", l)
		}
		l, y, e := Bust(l, x.Id)
		checkList(t, fmt.Sprint(ids), l, e, before)
		if y != x {
			t.Errorf("%v is busted as %v", x, y)
		}
	}
}

// P12.3: any trade, whatever its fields are.
func TestPrint(t *testing.T) {
	for want, x := range map[string]api.Trade{
		"7 5 60 oil.20000121.f 3 15 a x b y": oilTrade(),
		"0 0 0  0 0    ":                     {},
		"-9223372036854775808 -1 9223372036854775807  -4 -9223372036854775808    \xff ":        oddTrade(),
		"1 9576 86399 gold.20260321.p-50 1048576 -7 long1 long2 long3 long4":                   {Id: 1, Day: 9576, Time: 86399, Series: api.Series{Product: "gold", Kind: api.Put, Expiry: 9576, Strike: -50}, Qty: 1048576, Price: -7, Buyer: api.Acc{Member: "long1", Name: "long2"}, Seller: api.Acc{Member: "long3", Name: "long4"}},
		"2 3 4 A b.20000101.c0 5 6 ? ! a b " + strings.Repeat("x", 1000):                       {Id: 2, Day: 3, Time: 4, Series: api.Series{Product: "A b", Kind: api.Call}, Qty: 5, Price: 6, Buyer: api.Acc{Member: "?", Name: "!"}, Seller: api.Acc{Member: "a b", Name: strings.Repeat("x", 1000)}},
		"1152921504606846976 73048 0 oil.21991231.f 1 -16777216 a23456789012 x b23456789012 y": {Id: api.MaxMoney, Day: api.MaxDay, Series: api.Series{Product: "oil", Kind: api.Future, Expiry: api.MaxDay, Strike: 99}, Qty: 1, Price: -top, Buyer: api.Acc{Member: "a23456789012", Name: "x"}, Seller: api.Acc{Member: "b23456789012", Name: "y"}},
	} {
		if s := Print(x); s != want {
			t.Errorf("%v: %q; want %q", x, s, want)
		}
	}
}

// P12.3: a trade that is in form is read, valid or not.
func TestParse(t *testing.T) {
	checkParse(t, "7 5 60 oil.20000121.f 3 15 a x b y", oilTrade(), api.OK)
	checkParse(t, "0 -1 -2 oil.20000101.c-16777216 -3 -4 a a a a", api.Trade{Day: -1, Time: -2, Series: api.Series{Product: "oil", Kind: api.Call, Strike: -top}, Qty: -3, Price: -4, Buyer: api.Acc{Member: "a", Name: "a"}, Seller: api.Acc{Member: "a", Name: "a"}}, api.OK)
	most := fmt.Sprint(api.MaxMoney)
	checkParse(t, most+" -"+most+" "+most+" a23456789012.21991231.p16777216 "+most+" -"+most+" b23456789012 c z9 d0", api.Trade{
		Id: api.MaxMoney, Day: -api.MaxMoney, Time: api.MaxMoney, Series: api.Series{Product: "a23456789012", Kind: api.Put, Expiry: api.MaxDay, Strike: top},
		Qty: api.MaxMoney, Price: -api.MaxMoney, Buyer: api.Acc{Member: "b23456789012", Name: "c"}, Seller: api.Acc{Member: "z9", Name: "d0"},
	}, api.OK)
}

// wrongFields are texts for each field that are none of it, with their errors.
func wrongFields() (l [10]map[string]api.Errno) {
	number := map[string]api.Errno{"": api.ErrForm, "-": api.ErrForm, "-0": api.ErrForm, "07": api.ErrForm, "+7": api.ErrForm, "x": api.ErrForm, "7x": api.ErrForm, "1.5": api.ErrForm, "1152921504606846977": api.ErrOver, "-1152921504606846977": api.ErrOver, "9223372036854775808": api.ErrOver, strings.Repeat("9", 400): api.ErrOver}
	contract := map[string]api.Errno{"": api.ErrForm, "oil": api.ErrForm, "oil.20000121": api.ErrForm, "Oil.20000121.f": api.ErrForm, "oil.20000121.f0": api.ErrForm, "oil.20000121.c": api.ErrForm, "oil.20000230.f": api.ErrDate, "oil.22000101.f": api.ErrDate, "oil.20000121.c1152921504606846977": api.ErrOver, "oil.20000121.p16777217": api.ErrPrice}
	name := map[string]api.Errno{"": api.ErrForm, "A": api.ErrForm, "1a": api.ErrForm, "a.": api.ErrForm, "7": api.ErrForm, "-": api.ErrForm, "abcdefghijklm": api.ErrForm}
	for i := range l {
		switch {
		case i == 3:
			l[i] = contract
		case i < 6:
			l[i] = number
		default:
			l[i] = name
		}
	}
	return l
}

// goodFields are those of the chapter's example.
func goodFields() []string {
	return strings.Fields("7 5 60 oil.20000121.f 3 15 a x b y")
}

// P12.3: what is no number, no series or no name, in each field.
func TestParseFields(t *testing.T) {
	for i, texts := range wrongFields() {
		for text, want := range texts {
			fields := goodFields()
			fields[i] = text
			checkParse(t, strings.Join(fields, " "), api.Trade{}, want)
		}
	}
}

// P12.3: of two fields that are wrong, a name's error comes first, then that of the field ahead.
func TestParseOrder(t *testing.T) {
	wrong := wrongFields()
	for i := range wrong {
		for j := range i {
			for early, earlyE := range wrong[j] {
				for late, lateE := range wrong[i] {
					if early == "" || late == "" { // an error of words.Fields
						continue
					}
					fields, want := goodFields(), earlyE
					fields[i], fields[j] = late, early
					if i >= 6 {
						want = lateE
					}
					if s := strings.Join(fields, " "); len(s) <= api.MaxLine {
						checkParse(t, s, api.Trade{}, want)
					}
				}
			}
		}
	}
}

// P12.3: not ten fields, and the errors of words.Fields, ahead of all others.
func TestParseForm(t *testing.T) {
	good := strings.Join(goodFields(), " ")
	for n := range 10 {
		checkParse(t, strings.Join(goodFields()[:n], " "), api.Trade{}, api.ErrForm)
		checkParse(t, strings.Join(slices.Delete(goodFields(), n, n+1), " "), api.Trade{}, api.ErrForm)
	}
	for _, s := range []string{
		good + " z", "7 " + good, good + " " + good, good + " ", " " + good, strings.Replace(good, " ", "  ", 1), strings.Replace(good, " ", "\t", 1), good + "\n", "\x00" + good, good + "\xff",
		"99999999999999999999 5 60 oil.20000230.f 3 15 a x b", // nine fields, a number that is too large and a date that is none
		"99999999999999999999 5 60 oil.20000230.f 3 15 a x b y z",
	} {
		checkParse(t, s, api.Trade{}, api.ErrForm)
	}
	long := strings.Repeat("9", api.MaxLine-len(good)+1) + good[1:]
	checkParse(t, long, api.Trade{}, api.ErrOver)
	checkParse(t, "9"+long, api.Trade{}, api.ErrLong)
	checkParse(t, strings.Repeat("  \n", api.MaxLine), api.Trade{}, api.ErrLong)
}

// P12.5: a parsed trade is printed as the same string, however a text is changed.
func TestParsedIsPrinted(t *testing.T) {
	r := rand.New(rand.NewSource(1205))
	const letters = "0123456789-. abcxyzfp"
	accepted := 0
	for range 50000 {
		b := []byte(Print(randomTrade(r)))
		for range r.Intn(3) {
			i := r.Intn(len(b))
			switch r.Intn(3) {
			case 0:
				b[i] = letters[r.Intn(len(letters))]
			case 1:
				b = slices.Delete(b, i, i+1)
			default:
				b = slices.Insert(b, i, letters[r.Intn(len(letters))])
			}
		}
		x, e := Parse(string(b))
		if e != api.OK {
			if x != (api.Trade{}) {
				t.Errorf("%q: %v beside error %d", b, x, e)
			}
			continue
		}
		accepted++
		if s := Print(x); s != string(b) {
			t.Errorf("%q is printed as %q", b, s)
		}
	}
	if accepted < 10000 {
		t.Errorf("only %d texts are accepted", accepted)
	}
}

// P12.4: bought or sold, each trade once, in the order of the list.
func TestOf(t *testing.T) {
	ax, ay, bx, by := api.Acc{Member: "a", Name: "x"}, api.Acc{Member: "a", Name: "y"}, api.Acc{Member: "b", Name: "x"}, api.Acc{Member: "b", Name: "y"}
	l := withIds(9, 1, 5, 5, 3)
	l[1].Buyer, l[1].Seller = by, ax
	l[2].Buyer, l[2].Seller = ay, bx
	l[3].Buyer, l[3].Seller = ax, ax // no valid trade, but one of the account
	l[4] = api.Trade{}
	for _, c := range []struct {
		acc    api.Acc
		places []int
	}{
		{ax, []int{0, 1, 3}},
		{by, []int{0, 1}},
		{ay, []int{2}},
		{bx, []int{2}},
		{api.Acc{}, []int{4}},
		{api.Acc{Member: "a"}, nil},
		{api.Acc{Name: "x"}, nil},
		{api.Acc{Member: "x", Name: "a"}, nil},
		{api.Acc{Member: "c", Name: "x"}, nil},
		{api.Acc{Member: "ax"}, nil},
	} {
		var want []api.Trade
		for _, i := range c.places {
			want = append(want, l[i])
		}
		checkList(t, fmt.Sprint(c.acc), Of(l, c.acc), api.OK, want)
	}
	checkList(t, "of none", Of(nil, ax), api.OK, nil)
	checkList(t, "of many", Of(upTo(3*api.MaxList), ax), api.OK, upTo(3*api.MaxList))
}

// P12.4: the lots of one series, with quantities that may be.
func TestVolume(t *testing.T) {
	s := oilTrade().Series
	for _, c := range []struct {
		qtys []int
		want int
	}{
		{nil, 0},
		{[]int{1}, 1},
		{[]int{3, 3}, 6},
		{[]int{api.MaxQty, 1}, api.MaxQty + 1},
		{[]int{api.MaxQty + 1, 5}, 5},
		{[]int{0, -1, 5, -api.MaxQty}, 5},
		{append([]int{2}, far...), 2},
	} {
		var l []api.Trade
		for _, qty := range c.qtys {
			l = append(l, api.Trade{Series: s, Qty: qty})
		}
		if n := Volume(l, s); n != c.want {
			t.Errorf("%v: %d; want %d", c.qtys, n, c.want)
		}
	}
	other := s
	for _, change := range []func(){func() { other.Product = "gas" }, func() { other.Kind = api.Call }, func() { other.Expiry++ }, func() { other.Strike = 5 }} {
		other = s
		change()
		l := []api.Trade{{Series: other, Qty: 10}, {Series: s, Qty: 1}, {Series: other, Qty: 10}}
		if n, m := Volume(l, s), Volume(l, other); n != 1 || m != 20 {
			t.Errorf("beside %v: %d, %d", other, n, m)
		}
	}
	if n := Volume([]api.Trade{{Qty: 4}}, api.Series{}); n != 4 {
		t.Errorf("of a series that is none: %d", n)
	}
}

// P12.4: only the first MaxList trades count, those of other series among them.
func TestVolumeOfMany(t *testing.T) {
	s := oilTrade().Series
	for _, length := range []int{api.MaxList - 1, api.MaxList, api.MaxList + 1, 3 * api.MaxList} {
		want := min(length, api.MaxList)
		l := slices.Repeat([]api.Trade{{Series: s, Qty: api.MaxQty}}, length)
		if n := Volume(l, s); n != want*api.MaxQty {
			t.Errorf("%d trades: %d", length, n)
		}
		l[0].Series, l[1].Qty = api.Series{}, 0
		if n := Volume(l, s); n != (want-2)*api.MaxQty {
			t.Errorf("%d trades, two of which do not count: %d", length, n)
		}
	}
}

// General rule 4: arguments stay as they are, with the memory behind them, and results are new memory.
func TestArguments(t *testing.T) {
	x := oilTrade()
	for _, id := range []int{0, 2, 4, 6, 100} {
		x.Id = id
		for length := range 5 {
			memory := upTo(8)
			l, e := Add(memory[:length], x)
			if e != api.OK || len(l) != length+1 {
				t.Errorf("Add: %v, error %d", l, e)
			}
			checkNew(t, "Add", l, memory, upTo(8))
		}
	}
	for length := 1; length < 6; length++ {
		for i := range length {
			memory := upTo(8)
			l, _, e := Bust(memory[:length], 2*i+1)
			if e != api.OK || len(l) != length-1 {
				t.Errorf("Bust: %v, error %d", l, e)
			}
			checkNew(t, "Bust", l, memory, upTo(8))
		}
		memory := upTo(8)
		checkNew(t, "Of", Of(memory[:length], x.Buyer), memory, upTo(8))
		Volume(memory[:length], x.Series)
		Find(memory[:length], 1)
		checkNew(t, "Volume, Find", nil, memory, upTo(8))
	}
	products, members := market(), people()
	Check(oilTrade(), products, members)
	if !slices.Equal(products, market()) || fmt.Sprint(members) != fmt.Sprint(people()) {
		t.Errorf("Check: %v, %v", products, members)
	}
}

// checkNew overwrites all memory of a result and tests whether the memory of the argument is still as it was.
func checkNew(t *testing.T, what string, result, memory, want []api.Trade) {
	t.Helper()
	clear(result[:cap(result)])
	if !slices.Equal(memory, want) {
		t.Errorf("%s: the memory became %v", what, memory)
	}
}

func TestExamples(t *testing.T) {
	checkParse(t, "7 5 60 oil.20000121.f 3 15 a x b y", api.Trade{
		Id: 7, Day: 5, Time: 60, Series: api.Series{Product: "oil", Kind: api.Future, Expiry: 20}, Qty: 3, Price: 15,
		Buyer: api.Acc{Member: "a", Name: "x"}, Seller: api.Acc{Member: "b", Name: "y"},
	}, api.OK)
	one, two, three := api.Trade{Id: 1}, api.Trade{Id: 2}, api.Trade{Id: 3}
	l, e := Add([]api.Trade{one, three}, two)
	checkList(t, "Add of 2", l, e, []api.Trade{one, two, three})
	again, e := Add(l, three)
	checkListError(t, "Add of 3", again, e, api.ErrThere)
	l, x, e := Bust(l, 2)
	checkList(t, "Bust of 2", l, e, []api.Trade{one, three})
	if x != two {
		t.Errorf("busted: %v", x)
	}
}
