package phase

import (
	"math"
	"slices"
	"strings"
	"testing"

	"contango/api"
)

const phases = 6

// names are those of P7.3, in the order of the phases.
var names = []string{"open", "cut", "price", "margin", "settle", "closed"}

// table is that of P7.2: the acts by phase.
var table = map[int][]int{
	api.PhOpen:   {api.ActTrade, api.ActBust, api.ActGiveUp, api.ActMove, api.ActDefault, api.ActPledge},
	api.PhCut:    {api.ActBust, api.ActGiveUp, api.ActMove, api.ActDefault, api.ActPledge},
	api.PhPrice:  {api.ActMark, api.ActDefault},
	api.PhMargin: {api.ActReckon, api.ActDefault},
	api.PhSettle: {api.ActPay, api.ActDefault, api.ActPledge},
	api.PhClosed: {api.ActAdmin},
}

// ints returns the numbers around the phases, the acts and the bits of an int, and those at the ends of int and of its halves.
func ints() (l []int) {
	for n := -130; n <= 130; n++ {
		l = append(l, n)
	}
	for _, n := range []int{math.MinInt, 1 << 32, -1 << 32, math.MaxInt} {
		for d := range 12 {
			if n < 0 {
				l = append(l, n+d)
			} else {
				l = append(l, n-d)
			}
		}
	}
	return append(l, 1<<32+api.PhOpen, 1<<32+api.ActPledge, -1<<32-1)
}

// noPhases returns the numbers among ints that are not phases.
func noPhases() []int {
	return slices.DeleteFunc(ints(), func(n int) bool { return n >= 1 && n <= phases })
}

// P7.1
func TestRight(t *testing.T) {
	for _, phase := range []int{api.PhOpen, api.PhCut, api.PhPrice, api.PhMargin, api.PhSettle, api.PhClosed} {
		if !Right(phase) {
			t.Errorf("%d is a phase", phase)
		}
	}
	for _, n := range noPhases() {
		if Right(n) {
			t.Errorf("%d is no phase", n)
		}
	}
}

// P7.1
func TestNext(t *testing.T) {
	for phase, want := range map[int]int{
		api.PhOpen: api.PhCut, api.PhCut: api.PhPrice, api.PhPrice: api.PhMargin,
		api.PhMargin: api.PhSettle, api.PhSettle: api.PhClosed, api.PhClosed: api.PhOpen,
	} {
		if to, e := Next(phase); to != want || e != api.OK {
			t.Errorf("after %d: %d, error %d; want %d", phase, to, e, want)
		}
	}
	for _, n := range noPhases() {
		if to, e := Next(n); to != 0 || e != api.ErrPhase {
			t.Errorf("after %d: %d, error %d; want 0, error %d", n, to, e, api.ErrPhase)
		}
	}
}

// P7.2: what the table has, and nothing else, whatever the numbers.
func TestMay(t *testing.T) {
	for _, phase := range ints() {
		for _, act := range ints() {
			if want := slices.Contains(table[phase], act); May(phase, act) != want {
				t.Errorf("act %d in phase %d: %t", act, phase, !want)
			}
		}
	}
}

// P7.2
func TestActs(t *testing.T) {
	for phase, want := range table {
		if l := Acts(phase); !slices.Equal(l, want) {
			t.Errorf("phase %d: %v; want %v", phase, l, want)
		}
	}
	for _, n := range noPhases() {
		if l := Acts(n); l != nil {
			t.Errorf("phase %d: %v", n, l)
		}
	}
	if l := Acts(api.PhSettle); !slices.Equal(l, []int{7, 8, 10}) {
		t.Errorf("settle: %v", l)
	}
}

// P7.2: what Acts returned belongs to the caller.
func TestActsAreNew(t *testing.T) {
	for phase, want := range table {
		l, other := Acts(phase), Acts(phase)
		clear(l[:cap(l)])
		if !slices.Equal(other, want) || !slices.Equal(Acts(phase), want) {
			t.Errorf("phase %d: %v, %v", phase, other, Acts(phase))
		}
	}
}

// P7.3
func TestName(t *testing.T) {
	for i, want := range names {
		if s := Name(api.PhOpen + i); s != want {
			t.Errorf("phase %d is %q; want %q", api.PhOpen+i, s, want)
		}
	}
	for _, n := range noPhases() {
		if s := Name(n); s != "" {
			t.Errorf("phase %d is %q", n, s)
		}
	}
}

// P7.3
func TestOf(t *testing.T) {
	for i, name := range names {
		if phase, ok := Of(name); phase != api.PhOpen+i || !ok {
			t.Errorf("%q is %d, %t; want %d", name, phase, ok, api.PhOpen+i)
		}
	}
	wrong := []string{"", " ", "0", "1", "Open", "PhOpen", "end", "\x00", "open\x00cut", "open cut", "clos\xc3\xa9d", strings.Repeat("open", 10000)}
	for _, name := range names {
		wrong = append(wrong, name[1:], name[:len(name)-1], name+" ", " "+name, name+"s", name+"\x00", strings.ToUpper(name), strings.ToUpper(name[:1])+name[1:])
	}
	for _, name := range wrong {
		if phase, ok := Of(name); phase != 0 || ok {
			t.Errorf("%q is %d, %t", name, phase, ok)
		}
	}
}

// P7.4
func TestAhead(t *testing.T) {
	for a := 1; a <= phases; a++ {
		for b := 1; b <= phases; b++ {
			if Ahead(a, b) != (a < b) {
				t.Errorf("%d ahead of %d: %t", a, b, a >= b)
			}
		}
		for _, n := range noPhases() {
			if Ahead(a, n) || Ahead(n, a) {
				t.Errorf("%d and %d are not two phases", a, n)
			}
		}
	}
	for _, a := range noPhases() {
		for _, b := range noPhases() {
			if Ahead(a, b) {
				t.Errorf("%d and %d are no phases", a, b)
			}
		}
	}
}

// P7.5: a round visits each phase once; from PhOpen on, each is ahead of all that follow in the same day.
func TestRound(t *testing.T) {
	for start := 1; start <= phases; start++ {
		visited := map[int]bool{}
		phase := start
		for range phases {
			to, e := Next(phase)
			if e != api.OK || !Right(to) || visited[to] {
				t.Fatalf("from %d: %d after %d, error %d", start, to, phase, e)
			}
			if Ahead(phase, to) != (phase != api.PhClosed) {
				t.Errorf("%d ahead of %d: %t", phase, to, Ahead(phase, to))
			}
			visited[to] = true
			phase = to
		}
		if phase != start || len(visited) != phases {
			t.Errorf("from %d: at %d after %d phases", start, phase, len(visited))
		}
	}
}

// P7.6
func TestEachAct(t *testing.T) {
	somewhere := map[int]bool{}
	for _, phase := range ints() {
		var allowed []int
		for act := -130; act <= 130; act++ { // ascending
			if May(phase, act) {
				allowed = append(allowed, act)
				somewhere[act] = true
			}
		}
		if l := Acts(phase); !slices.Equal(l, allowed) {
			t.Errorf("phase %d: %v; allowed %v", phase, l, allowed)
		}
	}
	for act := 1; act <= 10; act++ {
		if !somewhere[act] {
			t.Errorf("act %d is allowed nowhere", act)
		}
	}
	if len(somewhere) != 10 {
		t.Errorf("%d acts are allowed", len(somewhere))
	}
}
