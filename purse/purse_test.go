package purse_test

import (
	"errors"
	"math"
	"math/big"
	"runtime"
	"slices"
	"testing"

	"shibboleth/purse"
)

// model is what the chapter's words say of a purse, in whole numbers of any size.
type model struct {
	budget float64
	spent  *big.Int
}

// greatest is the number at which what was spent stays.
func greatest() *big.Int {
	return new(big.Int).SetUint64(math.MaxUint64)
}

// affords tells whether the model affords n.
func (m *model) affords(n *big.Int) bool {
	if n.Sign() == 0 {
		return true
	}
	if math.IsNaN(m.budget) || m.budget <= 0 {
		return false
	}
	return new(big.Float).SetFloat64(m.budget).Cmp(new(big.Float).SetInt(n)) >= 0
}

// over tells whether the model is overspent.
func (m *model) over() bool {
	return !m.affords(m.spent)
}

// spend is what Run of a Spend of n must answer.
func (m *model) spend(n int) bool {
	if m.over() {
		return false
	}
	if n < 1 {
		return true
	}
	m.spent = new(big.Int).Add(m.spent, big.NewInt(int64(n)))
	if m.spent.Cmp(greatest()) > 0 {
		m.spent = greatest()
	}
	return !m.over()
}

// left is what Left must answer.
func (m *model) left() float64 {
	switch {
	case m.over() || !m.affords(big.NewInt(1)):
		return 0
	case math.IsInf(m.budget, 1):
		return math.Inf(1)
	}
	whole, _ := new(big.Float).SetFloat64(m.budget).Int(nil)
	return max(0, near(whole)-near(m.spent))
}

// near is the float64 that is nearest to n.
func near(n *big.Int) float64 {
	x, _ := new(big.Float).SetInt(n).Float64()
	return x
}

// budgets rise, but for the NaNs at their end.
func budgets() []float64 {
	return []float64{
		math.Inf(-1), -math.MaxFloat64, -1 << 64, -2, -1, -0.5, -math.SmallestNonzeroFloat64, math.Copysign(0, -1), 0,
		math.SmallestNonzeroFloat64, 0.5, math.Nextafter(1, 0), 1, math.Nextafter(1, 2), 1.5, math.Nextafter(2, 0), 2, 2.5, 3, 3.999, 7, 100.25,
		1<<51 + 0.5, 1<<53 - 1, 1 << 53, 1<<53 + 2, 1<<53 + 4, 1 << 54, 1 << 60, 1<<62 - 512, 1 << 62, 1<<63 - 1024, 1 << 63, 1<<63 + 2048,
		1<<64 - 4096, 1<<64 - 2048, 1 << 64, 1<<64 + 4096, 1 << 70, 1e100, math.MaxFloat64, math.Inf(1),
		math.NaN(), math.Float64frombits(0xfff8000000000001), math.Float64frombits(0x7ff0000000000001),
	}
}

// amounts are numbers to be spent, of all kinds.
func amounts() []int {
	return []int{
		math.MinInt, -1, 0, 1, 2, 3, 1<<53 - 1, 1 << 53, 1<<53 + 1, 1 << 62,
		1<<63 - 2048, 1<<63 - 1025, 1<<63 - 1024, 1<<63 - 1023, math.MaxInt,
	}
}

// spends tells what Run answers of a Spend of n.
func spends(p *purse.Purse, n int) bool {
	return p.Run(func() { p.Spend(n) })
}

// caught is the value with which do panics; nil, if it comes back.
func caught(do func()) (value any) {
	defer func() { value = recover() }()
	do()
	return nil
}

// spent is a purse of this budget, of which n was spent, overspent or not.
func spent(budget float64, n int) *purse.Purse {
	p := purse.New(budget)
	spends(p, n)
	return p
}

// zero tells whether x is +0.
func zero(x float64) bool {
	return x == 0 && !math.Signbit(x)
}

// P4.1, P4.2, P4.3: all that a purse tells is what the chapter's words say, after each of up to three Spends.
func TestAsTheWordsSay(t *testing.T) {
	for _, budget := range budgets() {
		var rows func(row []int, deep int)
		rows = func(row []int, deep int) {
			follows(t, budget, row)
			if deep == 0 {
				return
			}
			for _, n := range amounts() {
				rows(append(slices.Clone(row), n), deep-1)
			}
		}
		rows(nil, 3)
	}
}

// follows holds a purse against the model, along a row of numbers that are spent.
func follows(t *testing.T, budget float64, row []int) {
	t.Helper()
	p, m := purse.New(budget), &model{budget, new(big.Int)}
	for _, n := range row {
		if got, want := spends(p, n), m.spend(n); got != want {
			t.Fatalf("New(%v), spent %v: Run %v", budget, row, got)
		}
	}
	if p.Spent() != m.spent.Uint64() || p.Over() != m.over() {
		t.Fatalf("New(%v), spent %v: Spent %d, Over %v", budget, row, p.Spent(), p.Over())
	}
	if got, want := p.Left(), m.left(); math.Float64bits(got) != math.Float64bits(want) {
		t.Fatalf("New(%v), spent %v: Left %v, not %v", budget, row, got, want)
	}
}

// P4.1: of a new purse nothing was spent, whatever its budget is; two purses have nothing in common.
func TestNew(t *testing.T) {
	for _, budget := range budgets() {
		p := purse.New(budget)
		if p.Spent() != 0 || p.Over() {
			t.Errorf("New(%v): Spent %d, Over %v", budget, p.Spent(), p.Over())
		}
	}
	p, q := purse.New(5), purse.New(5)
	p.Spend(3)
	if q.Spent() != 0 || p.Spent() != 3 || p.Left() != 2 || q.Left() != 5 {
		t.Errorf("two purses: %d and %d spent", p.Spent(), q.Spent())
	}
}

// P4.1: Spend of nothing and of less does nothing at all: a purse that is overspent does not panic of it.
func TestSpendNothing(t *testing.T) {
	for _, n := range []int{0, -1, -2, math.MinInt + 1, math.MinInt} {
		for _, budget := range budgets() {
			p := purse.New(budget)
			if v := caught(func() { p.Spend(n) }); v != nil || p.Spent() != 0 || p.Over() {
				t.Errorf("New(%v), Spend(%d): panic %v, Spent %d", budget, n, v, p.Spent())
			}
		}
		p := spent(2, 3)
		if v := caught(func() { p.Spend(n) }); v != nil || p.Spent() != 3 || !p.Over() {
			t.Errorf("overspent, Spend(%d): panic %v, Spent %d", n, v, p.Spent())
		}
	}
}

// P4.1: outside of Run, Spend panics as soon as the purse is overspent, not ahead of it, and each time; what it was to spend is spent then.
func TestSpendPanics(t *testing.T) {
	p := purse.New(2)
	steps := []struct {
		n      int
		panics bool
		spent  uint64
	}{{1, false, 1}, {1, false, 2}, {0, false, 2}, {1, true, 3}, {-1, false, 3}, {5, true, 8}, {1, true, 9}}
	for i, s := range steps {
		v := caught(func() { p.Spend(s.n) })
		if (v != nil) != s.panics || p.Spent() != s.spent || p.Over() != (s.spent > 2) {
			t.Errorf("step %d: panic %v, Spent %d, Over %v", i, v, p.Spent(), p.Over())
		}
	}
	for _, budget := range []float64{math.NaN(), math.Inf(-1), -1, math.Copysign(0, -1), 0, 0.999} {
		p := purse.New(budget)
		if caught(func() { p.Spend(1) }) == nil || p.Spent() != 1 || !p.Over() {
			t.Errorf("New(%v) affords 1", budget)
		}
	}
}

// P4.1: the value of the panic is nothing that others know: no error, no text, no number, not the purse; of two purses that are alike it is not the same.
func TestValue(t *testing.T) {
	p, q := purse.New(1), purse.New(1)
	v := caught(func() { p.Spend(2) })
	w := caught(func() { q.Spend(2) })
	if v == nil || w == nil || v == w {
		t.Errorf("two purses panic with %v and %v", v, w)
	}
	switch v.(type) {
	case error, string, []byte, int, uint64, float64, bool, *purse.Purse, purse.Purse, interface{ String() string }:
		t.Errorf("others know a %T", v)
	}
}

// P4.1: what was spent stays at 2^64 - 1; a budget above that affords it.
func TestGreatestSpent(t *testing.T) {
	for _, budget := range []float64{1 << 64, 1 << 70, math.MaxFloat64, math.Inf(1)} {
		p := purse.New(budget)
		for i, want := range []uint64{math.MaxInt, math.MaxUint64 - 1, math.MaxUint64, math.MaxUint64, math.MaxUint64} {
			n := math.MaxInt
			if i == 2 {
				n = 1
			}
			if !spends(p, n) || p.Spent() != want || p.Over() {
				t.Errorf("New(%v), spent %d times: Spent %d, Over %v", budget, i+1, p.Spent(), p.Over())
			}
		}
	}
	p := purse.New(1<<64 - 2048)
	for range 9 {
		caught(func() { p.Spend(math.MaxInt) })
	}
	if p.Spent() != math.MaxUint64 || !p.Over() {
		t.Errorf("the budget below 2^64: Spent %d, Over %v", p.Spent(), p.Over())
	}
}

// P4.1: numbers are held against the budget without rounding, on both sides.
func TestWithoutRounding(t *testing.T) {
	cases := []struct {
		budget float64
		ns     []int
		over   bool
	}{
		{math.Nextafter(1, 0), []int{1}, true},
		{1, []int{1}, false},
		{math.Nextafter(3, 0), []int{3}, true},
		{math.Nextafter(3, 0), []int{2}, false},
		{1 << 53, []int{1 << 53}, false},
		{1 << 53, []int{1<<53 + 1}, true}, // as a float64 that is 2^53
		{1<<53 + 2, []int{1<<53 + 2}, false},
		{1<<53 + 2, []int{1<<53 + 3}, true},
		{1 << 62, []int{1<<62 + 1}, true},
		{1 << 63, []int{math.MaxInt}, false}, // as a float64 that is 2^63
		{1 << 63, []int{math.MaxInt, 1}, false},
		{1 << 63, []int{math.MaxInt, 2}, true},
		{1<<63 - 1024, []int{math.MaxInt}, true},
		{1<<64 - 2048, []int{1<<63 - 1024, 1<<63 - 1024}, false},
		{1<<64 - 2048, []int{1<<63 - 1024, 1<<63 - 1023}, true},
		{1<<64 - 2048, []int{math.MaxInt, math.MaxInt}, true},
		{1 << 64, []int{math.MaxInt, math.MaxInt, 1}, false},
	}
	for _, c := range cases {
		p := purse.New(c.budget)
		for _, n := range c.ns {
			spends(p, n)
		}
		if p.Over() != c.over {
			t.Errorf("New(%v), spent %v: Over %v", c.budget, c.ns, p.Over())
		}
	}
}

// P4.2: Left is a whole number; 0 of what is overspent, and of what affords nothing but 0; +Inf of +Inf.
func TestLeft(t *testing.T) {
	cases := []struct {
		budget float64
		n      int
		left   float64
	}{
		{2.5, 0, 2}, {2.5, 1, 1}, {2.5, 2, 0}, {2.5, 3, 0}, {math.Nextafter(3, 0), 1, 1}, {3, 1, 2}, {1, 0, 1}, {1, 1, 0}, {1, 2, 0},
		{math.NaN(), 0, 0}, {math.NaN(), 1, 0}, {math.Inf(-1), 0, 0}, {-2.5, 0, 0}, {math.Copysign(0, -1), 0, 0}, {0, 0, 0}, {0.999, 0, 0}, {-2.5, 1, 0},
		{math.Inf(1), 0, math.Inf(1)}, {math.Inf(1), math.MaxInt, math.Inf(1)},
		{1 << 70, 0, 1 << 70}, {1 << 70, math.MaxInt, 1<<70 - 1<<63}, {math.MaxFloat64, 1, math.MaxFloat64},
		{1 << 60, 1, 1 << 60}, {1 << 60, 1 << 59, 1 << 59},
		{1 << 54, 1<<53 + 1, 1 << 53}, // as a float64, 2^53 was spent
		{1<<53 + 2, 1<<53 + 1, 2},
		{1 << 63, math.MaxInt, 0},
	}
	for _, c := range cases {
		if got := spent(c.budget, c.n).Left(); math.Float64bits(got) != math.Float64bits(c.left) {
			t.Errorf("New(%v), spent %d: Left %v, not %v", c.budget, c.n, got, c.left)
		}
	}
	p := purse.New(1 << 64)
	for range 3 {
		spends(p, math.MaxInt)
	}
	if !zero(p.Left()) {
		t.Errorf("2^64 less 2^64 - 1, as float64s: %v", p.Left())
	}
}

// P4.2: Left, asked, spends nothing; nor do Spent and Over.
func TestAsking(t *testing.T) {
	p := purse.New(3)
	p.Spend(1)
	for range 5 {
		if p.Left() != 2 || p.Spent() != 1 || p.Over() {
			t.Errorf("asked: Left %v, Spent %d, Over %v", p.Left(), p.Spent(), p.Over())
		}
	}
}

// P4.3: Run tells whether do came back, which is called once, or, of a purse that is overspent, not at all.
func TestRun(t *testing.T) {
	calls := 0
	p := purse.New(2.5)
	if !p.Run(func() { calls++ }) || calls != 1 || p.Spent() != 0 {
		t.Errorf("nothing spent: %d calls", calls)
	}
	behind := false
	if p.Run(func() { calls++; p.Spend(2); p.Spend(1); behind = true }) || calls != 2 || behind {
		t.Errorf("overspent: %d calls, went on %v", calls, behind)
	}
	if p.Run(func() { calls++ }) || calls != 2 {
		t.Errorf("Run of what is overspent: %d calls", calls)
	}
	if v := caught(func() { p.Run(func() { panic("other") }) }); v != nil {
		t.Errorf("Run of what is overspent calls do, which panics: %v", v)
	}
	q := purse.New(math.NaN())
	if !q.Run(func() { calls++ }) || calls != 3 || q.Run(func() { q.Spend(1) }) || q.Run(func() { calls++ }) || calls != 3 {
		t.Errorf("a budget that is no number: %d calls", calls)
	}
}

// P4.3: what do is told by is whether it comes back, not whether the purse is overspent.
func TestComesBack(t *testing.T) {
	p := purse.New(1)
	if !p.Run(func() { caught(func() { p.Spend(2) }) }) || !p.Over() {
		t.Errorf("do recovers, and comes back: false")
	}
	p = purse.New(1)
	inner := true
	if !p.Run(func() { inner = p.Run(func() { p.Spend(2) }) }) || inner {
		t.Errorf("a Run of the same purse inside: %v there", inner)
	}
	p = purse.New(1)
	if p.Run(func() {
		v := caught(func() { p.Spend(2) })
		panic(v)
	}) {
		t.Errorf("do hands the panic on, and Run says true")
	}
	p = purse.New(1)
	if p.Run(func() {
		defer p.Spend(2)
		panic("other")
	}) {
		t.Errorf("do ends by Spend's panic in a deferred call, and Run says true")
	}
}

// P4.3: another purse's panic goes on, to that purse's own Run, also if the two are alike in all.
func TestAnotherPurse(t *testing.T) {
	for _, budget := range []float64{1, 10} {
		p, q := purse.New(1), purse.New(budget)
		back, reached := false, false
		outer := p.Run(func() {
			back = q.Run(func() { p.Spend(2) })
			reached = true
		})
		if outer || back || reached || !p.Over() || q.Over() || q.Spent() != 0 {
			t.Errorf("New(%v): outer %v, inner %v, behind it %v", budget, outer, back, reached)
		}
	}
	p, q := purse.New(1), purse.New(1)
	spends(p, 1)
	spends(q, 1)
	v := caught(func() { q.Run(func() { p.Spend(1) }) })
	if v == nil || q.Over() {
		t.Errorf("the panic ended in the Run of another purse, as much spent")
	}
	if v := caught(func() { (*purse.Purse)(nil).Run(func() { p.Spend(1) }) }); v == nil {
		t.Errorf("the panic ended in the Run of a nil purse")
	}
	if w := caught(func() { q.Run(func() { panic(v) }) }); w != v {
		t.Errorf("kept and told again, the panic is %v to another purse", w)
	}
}

// P4.3: a panic with any other value goes on as it is.
func TestOtherPanics(t *testing.T) {
	p := purse.New(1)
	fault := errors.New("fault")
	for _, v := range []any{"other", 0, false, fault, p, *p, 1.5, struct{}{}, [2]int{1, 2}, math.MaxInt} {
		for _, q := range []*purse.Purse{p, nil} {
			if got := caught(func() { q.Run(func() { panic(v) }) }); got != v {
				t.Errorf("panic %v went on as %v", v, got)
			}
		}
	}
	if got, ok := caught(func() { p.Run(func() { panic([]int{7}) }) }).([]int); !ok || len(got) != 1 || got[0] != 7 {
		t.Errorf("a panic with a list went on as %v", got)
	}
	if got := caught(func() { p.Run(func() { panic(nil) }) }); got == nil {
		t.Errorf("a panic with nil did not go on")
	}
	var list []int
	if _, ok := caught(func() { p.Run(func() { list[len(list)] = 1 }) }).(runtime.Error); !ok {
		t.Errorf("a runtime fault did not go on")
	}
	q := purse.New(1)
	got := caught(func() {
		q.Run(func() {
			defer func() { panic("other") }()
			q.Spend(2)
		})
	})
	if got != "other" {
		t.Errorf("a panic behind Spend's went on as %v", got)
	}
	if p.Spent() != 0 || p.Over() || !spends(p, 1) {
		t.Errorf("other panics: Spent %d, Over %v", p.Spent(), p.Over())
	}
}

// P4.3: a nil purse spends nothing, and calls what it is to run.
func TestNilPurse(t *testing.T) {
	var p *purse.Purse
	for _, n := range amounts() {
		p.Spend(n)
		if p.Spent() != 0 || !zero(p.Left()) || p.Over() {
			t.Errorf("Spend(%d): Spent %d, Left %v, Over %v", n, p.Spent(), p.Left(), p.Over())
		}
	}
	calls := 0
	if !p.Run(func() { calls++; p.Spend(math.MaxInt) }) || calls != 1 {
		t.Errorf("Run: %d calls", calls)
	}
}

// R1: a do that is nil is no call's panic.
func TestRunNil(t *testing.T) {
	for _, p := range []*purse.Purse{nil, purse.New(1), purse.New(0), spent(1, 1), spent(1, 2)} {
		if v := caught(func() { p.Run(nil) }); v != nil {
			t.Errorf("Run(nil) panics: %v", v)
		}
	}
	if spent(1, 2).Run(nil) {
		t.Errorf("Run(nil) of what is overspent: true")
	}
}

// P4.4: Bound, of the chapter's examples and at its ends.
func TestBound(t *testing.T) {
	exponents := map[int]int{
		math.MinInt: 100, math.MinInt + 1: 100, -7: 100, -1: 100, 0: 100, 1: 127, 2: 154, 3: 181, 4: 208, 5: 235, 6: 262, 7: 289,
		8: 289, 9: 289, 200: 289, math.MaxInt / 9: 289, math.MaxInt/9 + 1: 289, math.MaxInt / 8: 289, math.MaxInt - 1: 289, math.MaxInt: 289,
	}
	for n, e := range exponents {
		if got := purse.Bound(n); got != math.Ldexp(1, e) {
			t.Errorf("Bound(%d): %v, not 2^%d", n, got, e)
		}
	}
}

// P4.5: Bound rises, is finite, and above 2^99.
func TestBoundRises(t *testing.T) {
	ns := []int{math.MinInt, math.MinInt / 9, math.MinInt/9 - 1}
	for n := -300; n <= 300; n++ {
		ns = append(ns, n)
	}
	for i := range 62 {
		ns = append(ns, 1<<i, 1<<i+1, -1<<i)
	}
	ns = append(ns, math.MaxInt/9, math.MaxInt/9+1, math.MaxInt)
	slices.Sort(ns)
	below := math.Ldexp(1, 99)
	for _, n := range ns {
		b := purse.Bound(n)
		if b < below || b <= math.Ldexp(1, 99) || math.IsInf(b, 0) || math.IsNaN(b) {
			t.Errorf("Bound(%d): %v, behind %v", n, b, below)
		}
		below = b
	}
}

// P4.5: what is overspent stays so, whatever is called.
func TestStaysOverspent(t *testing.T) {
	for _, budget := range budgets() {
		for _, n := range amounts() {
			p := spent(budget, n)
			if !p.Over() {
				continue
			}
			for _, more := range append(amounts(), math.MaxInt, math.MaxInt, 1) {
				caught(func() { p.Spend(more) })
				if !p.Over() || !zero(p.Left()) || p.Run(func() {}) {
					t.Fatalf("New(%v), overspent by %d, then Spend(%d): Over %v, Spent %d", budget, n, more, p.Over(), p.Spent())
				}
			}
		}
	}
}

// P4.5: a greater budget affords what a lesser one does.
func TestGreaterBudget(t *testing.T) {
	list := budgets()
	for _, n := range amounts() {
		afforded := false
		for _, budget := range list[:len(list)-3] { // those that are no numbers are not greater
			got := spends(purse.New(budget), n)
			if afforded && !got {
				t.Errorf("New(%v) does not afford %d", budget, n)
			}
			afforded = got
		}
		if !afforded {
			t.Errorf("+Inf does not afford %d", n)
		}
	}
}

// P4.5: what is spent by several Spends is as if spent at once, and also over the calls of several Runs.
func TestAsIfAtOnce(t *testing.T) {
	rows := [][]int{
		{1, 1}, {1, 2, 3}, {5, 0, 5, -7}, {3, math.MinInt, 3}, {1 << 53, 1}, {1, 1 << 53}, {1 << 61, 1, 1 << 61}, {1<<53 - 1, 1, 1}, {7, 7, 7, 7},
	}
	for _, row := range rows {
		sum := 0
		for _, n := range row {
			sum += max(n, 0)
		}
		for _, budget := range budgets() {
			once := spent(budget, sum)
			together, apart := purse.New(budget), purse.New(budget)
			back := together.Run(func() {
				for _, n := range row {
					together.Spend(n)
				}
			})
			all := true
			for _, n := range row {
				all = spends(apart, n) && all
			}
			if back == once.Over() || all == once.Over() {
				t.Errorf("New(%v), %v: at once Over %v, else %v, %v", budget, row, once.Over(), back, all)
			}
			if !back || !all {
				continue
			}
			for _, p := range []*purse.Purse{together, apart} {
				if p.Spent() != once.Spent() || p.Left() != once.Left() || p.Over() {
					t.Errorf("New(%v), %v: Spent %d, Left %v, at once %d, %v", budget, row, p.Spent(), p.Left(), once.Spent(), once.Left())
				}
			}
		}
	}
}

// P4.1 to P4.3: the chapter's examples, each row as it stands.
func TestExamples(t *testing.T) {
	p := purse.New(2.5)
	if !spends(p, 2) || p.Left() != 0 || spends(p, 1) || !p.Over() || p.Spent() != 3 || p.Left() != 0 || p.Run(func() {}) {
		t.Errorf("New(2.5): Spent %d, Left %v", p.Spent(), p.Left())
	}
	for _, budget := range []float64{math.NaN(), math.Copysign(0, -1)} {
		if q := purse.New(budget); !spends(q, 0) || spends(q, 1) {
			t.Errorf("New(%v)", budget)
		}
	}
	if q := purse.New(math.Inf(1)); !spends(q, 1<<62) || q.Left() != math.Inf(1) {
		t.Errorf("New(+Inf): Left %v", q.Left())
	}
	if q := purse.New(1 << 70); q.Left() != 1<<70 {
		t.Errorf("New(2^70): Left %v", q.Left())
	}
}
