package dfa_test

import (
	"fmt"
	"math"
	"slices"
	"strings"
	"testing"

	"shibboleth/api"
	"shibboleth/classes"
	"shibboleth/cons"
	"shibboleth/dfa"
	"shibboleth/nfa"
	"shibboleth/octets"
	"shibboleth/purse"
)

// P11.1 to P11.3: the chapter's examples.
func TestExamples(t *testing.T) {
	d, e := dfa.Build(example(), letters(), nil)
	want := dfa.DFA{Part: letters(), Next: [][]int{{1, 2, 1, 1}, {1, 1, 1, 1}, {1, 1, 3, 4}, {1, 1, 1, 1}, {1, 1, 1, 1}}, Final: []bool{true, false, false, true, false}}
	if e != api.OK || !same(d, want) {
		t.Errorf("Build: %v, %v, %d", d.Next, d.Final, e)
	}
	n, e := dfa.Not(d)
	if e != api.OK || dfa.Run(n, "") || !dfa.Run(n, "a") || dfa.Run(n, "ab") || !dfa.Run(n, "ac") {
		t.Errorf("Not: %v, %d", n.Final, e)
	}
	x, e := dfa.Both(d, d, dfa.Xor, nil)
	if e != api.OK || len(x.Final) != 5 || slices.Contains(x.Final, true) {
		t.Errorf("Both: %v, %d", x.Final, e)
	}
}

// P11.3: how is 1, 2 or 3.
func TestHows(t *testing.T) {
	if dfa.And != 1 || dfa.Or != 2 || dfa.Xor != 3 {
		t.Errorf("%d, %d, %d", dfa.And, dfa.Or, dfa.Xor)
	}
}

// The partition's fields and methods are the automaton's own.
func TestEmbedded(t *testing.T) {
	p := letters()
	d := built(t, example(), p)
	if d.N != 4 || d.Of['c'] != 3 || !d.Right() || !slices.Equal(d.Sets(), p.Sets()) || fmt.Sprint(d.Least(1)) != fmt.Sprint(p.Least(1)) || !d.Splits(octets.Range('c', 'd')) || d.Splits(octets.Range('a', 'c')) {
		t.Errorf("%v", d.Part)
	}
}

// P11.1: right ones.
func TestRight(t *testing.T) {
	one := classes.Refine()
	plan := chance(1)
	for i, d := range []dfa.DFA{
		{Part: one, Next: [][]int{{0}}, Final: []bool{false}},
		{Part: one, Next: [][]int{{1}, {0}}, Final: []bool{false, true}},
		{Part: one, Next: [][]int{{0}, {0}, {2}}, Final: []bool{true, true, true}}, // the others are not reached
		{Part: letters(), Next: [][]int{{0, 0, 0, 0}}, Final: []bool{true}},
		{Part: letters(), Next: [][]int{{2, 1, 0, 2}, {2, 2, 2, 2}, {0, 1, 2, 0}}, Final: make([]bool, 3)},
		plan.automaton(single(), 1), plan.automaton(single(), 300), plan.automaton(letters(), 70000),
	} {
		if !dfa.Right(d) || !dfa.Right(roomy(d)) {
			t.Errorf("%d: it is not right", i)
		}
	}
}

// P11.1 to P11.3: of one that is not right.
func TestWrong(t *testing.T) {
	fit := map[classes.Part]dfa.DFA{}
	for why, d := range wrong(t) {
		if dfa.Right(d) {
			t.Errorf("%s: it is right", why)
		}
		for _, w := range []string{"", "a", "b", "ab", "ac", "\x00\xff", strings.Repeat("a", 300)} {
			if dfa.Run(d, w) {
				t.Errorf("%s: it takes %q", why, w)
			}
		}
		if n, e := dfa.Not(d); e != api.ErrArg || !nothing(n) {
			t.Errorf("%s: Not: %v, %d", why, n, e)
		}
		other, known := fit[d.Part]
		if !known {
			other = dfa.DFA{Part: d.Part, Next: [][]int{make([]int, 4)}, Final: []bool{true}}
			fit[d.Part] = other
		}
		for how := range 5 {
			pays := purse.New(0)
			for _, both := range [][2]dfa.DFA{{d, other}, {other, d}, {d, d}} {
				if x, e := dfa.Both(both[0], both[1], uint8(how), pays); e != api.ErrArg || !nothing(x) || pays.Spent() != 0 {
					t.Errorf("%s: Both by %d: %v, %d, %d spent", why, how, x, e, pays.Spent())
				}
			}
		}
	}
}

// P11.1: texts that are taken, written down.
func TestRun(t *testing.T) {
	odd := dfa.DFA{Part: classes.Refine(octets.Of('a', 0xff)), Next: [][]int{{0, 1}, {1, 0}}, Final: []bool{false, true}}
	none := dfa.DFA{Part: classes.Refine(), Next: [][]int{{1}, {0}}, Final: []bool{false, false}}
	all := dfa.DFA{Part: classes.Refine(), Next: [][]int{{0}}, Final: []bool{true}}
	last := dfa.DFA{Part: single(), Next: [][]int{make([]int, 256), make([]int, 256)}, Final: []bool{false, true}}
	for _, list := range last.Next {
		list[0x80] = 1
	}
	for _, x := range []struct {
		name string
		d    dfa.DFA
		yes  []string
		no   []string
	}{
		{"odd", odd, []string{"a", "\xff", "bab", "a\xffa", "\x00\xff", "aaa"}, []string{"", "b", "aa", "\xffa", "\xffb\xff", "\u00ff"}},
		{"none", none, nil, []string{"", "a", "aa", "\x00"}},
		{"all", all, []string{"", "a", "\xff\x00", "\u20ac"}, nil},
		{"last", last, []string{"\x80", "a\x80", "\x80\x80", "\u0100"}, []string{"", "a", "\x80a", "\x7f", "\x81", "\u20ac"}},
		{"example", built(t, example(), letters()), []string{"", "ab"}, []string{"a", "b", "ac", "abb", "aba", "\x00", "abab"}},
	} {
		for _, w := range x.yes {
			if !dfa.Run(x.d, w) {
				t.Errorf("%s does not take %q", x.name, w)
			}
		}
		for _, w := range x.no {
			if dfa.Run(x.d, w) {
				t.Errorf("%s takes %q", x.name, w)
			}
		}
	}
}

// P11.2: automata of machines, written down.
func TestBuild(t *testing.T) {
	one, a := classes.Refine(), classes.Refine(octets.Of('a'))
	loop := api.Machine{Spots: []api.Spot{spot("a")}, First: []int{0}, Follow: [][]int{{0}}, Last: []bool{true}}
	noFirst := api.Machine{Spots: []api.Spot{spot("a")}, Follow: [][]int{{0}}, Last: []bool{true}, Empty: true}
	noByte := api.Machine{Spots: []api.Spot{spot("")}, First: []int{0}, Follow: [][]int{{0}}, Last: []bool{true}}
	// Behind an a are two runs, which b and c tell apart.
	fork := api.Machine{Spots: []api.Spot{spot("a"), spot("a"), spot("b"), spot("c")}, First: []int{0, 1}, Follow: [][]int{{2}, {3}, nil, {0}}, Last: []bool{false, false, true, true}}
	// The byte 0 is of the last spot: its class is the first one.
	low := api.Machine{Spots: []api.Spot{spot("z"), spot("\x00")}, First: []int{0, 1}, Follow: [][]int{nil, nil}, Last: []bool{true, false}}
	for _, x := range []struct {
		name  string
		m     api.Machine
		p     classes.Part
		next  [][]int
		final []bool
	}{
		{"zero", api.Machine{}, one, [][]int{{1}, {1}}, []bool{false, false}},
		{"only Empty", api.Machine{Empty: true}, a, [][]int{{1, 1}, {1, 1}}, []bool{true, false}},
		{"loop", loop, a, [][]int{{1, 2}, {1, 1}, {1, 2}}, []bool{false, false, true}},
		{"nothing is first", noFirst, a, [][]int{{1, 1}, {1, 1}}, []bool{true, false}},
		{"no byte", noByte, one, [][]int{{1}, {1}}, []bool{false, false}},
		{"full", full(250), one, [][]int{{1}, {1}}, []bool{false, true}},
		{"full, finer", full(2), letters(), [][]int{{1, 1, 1, 1}, {1, 1, 1, 1}}, []bool{false, true}},
		{"fork", fork, letters(), [][]int{{1, 2, 1, 1}, {1, 1, 1, 1}, {1, 1, 3, 4}, {1, 1, 1, 1}, {1, 5, 1, 1}, {1, 1, 3, 1}}, []bool{false, false, false, true, true, false}},
		{"low", low, classes.Refine(octets.Of('z'), octets.Of(0)), [][]int{{1, 2, 3}, {2, 2, 2}, {2, 2, 2}, {2, 2, 2}}, []bool{false, false, false, true}},
	} {
		if d := built(t, x.m, x.p); !same(d, dfa.DFA{Part: x.p, Next: x.next, Final: x.final}) {
			t.Errorf("%s: %v, %v", x.name, d.Next, d.Final)
		}
	}
}

// P11.2: spots that are not useful are spots, too.
func TestBuildUseless(t *testing.T) {
	m := example()
	trimmed, _ := nfa.Trim(m)
	d, x := built(t, m, letters()), built(t, trimmed, letters())
	if len(d.Next) != 5 || len(x.Next) != 4 {
		t.Errorf("%d states, trimmed %d", len(d.Next), len(x.Next))
	}
}

// P11.2: each of 250 spots is told apart from the others, and each of 256 classes.
func TestBuildManySpots(t *testing.T) {
	const many = api.MaxSpots
	m := full(many)
	for k := range many {
		m.Spots[k].Set = octets.Of(byte(k))
		m.Follow[k] = []int{(k + 1) % many}
		m.Last[k] = k%3 == 0
	}
	d := built(t, m, single())
	// The state behind the byte c from the first one on is c + 1; the one where no run is, is the first that is made behind these.
	const gone = many + 1
	if len(d.Next) != many+2 {
		t.Fatalf("%d states", len(d.Next))
	}
	for state, list := range d.Next {
		for c, got := range list {
			want := gone
			if state == 0 && c < many || state >= 1 && state <= many && c == state%many {
				want = c + 1
			}
			if got != want {
				t.Fatalf("the state %d, the byte %d: %d", state, c, got)
			}
		}
		if d.Final[state] != (state >= 1 && state <= many && state%3 == 1) {
			t.Fatalf("the state %d: final %v", state, d.Final[state])
		}
	}
}

// P11.2: Build against the model, of machines and partitions without a plan, state by state.
func TestBuildModel(t *testing.T) {
	plan := chance(2)
	states := 0
	for i := range 400 {
		m := plan.machine(plan.below(9))
		if i%2 == 0 {
			m = plan.wide(plan.below(9))
		}
		for j, p := range plan.partitions(nfa.Sets(m)) {
			if j == 2 && i%40 > 1 {
				continue // single bytes take their time
			}
			d := built(t, m, p)
			if want := ofMachine(m, p); !same(d, want) {
				t.Fatalf("%v: %v, %v, not %v, %v", m, d.Next, d.Final, want.Next, want.Final)
			}
			states += len(d.Next)
		}
	}
	// Else the machines would not be worth trying.
	if states < 5000 {
		t.Errorf("only %d states", states)
	}
}

// P11.2: of machines of many spots, too.
func TestBuildModelMany(t *testing.T) {
	plan := chance(3)
	for _, many := range []int{60, 64, 65, 128, 129, 192, 193, 249, 250} {
		m := plan.machine(many)
		for k := range m.Follow {
			m.Follow[k] = plan.numbers(many, many)
		}
		d := byMachine(t, m)
		if want := ofMachine(m, d.Part); !same(d, want) {
			t.Fatalf("%d spots: %d states, not %d", many, len(d.Next), len(want.Next))
		}
	}
}

// P11.2: ErrArg of Build.
func TestBuildWrong(t *testing.T) {
	pays := purse.New(0)
	fails := func(why string, m api.Machine, p classes.Part) {
		t.Helper()
		if d, e := dfa.Build(m, p, pays); e != api.ErrArg || !nothing(d) {
			t.Errorf("%s: %v, %d", why, d, e)
		}
	}
	for i, m := range wrongMachines() {
		fails(fmt.Sprint("the machine ", i), m, letters())
		fails(fmt.Sprint("the machine ", i), m, single())
		fails(fmt.Sprint("the machine and the partition ", i), m, classes.Part{})
	}
	for why, p := range wrongParts() {
		fails(why, example(), p)
		fails(why, api.Machine{}, p)
		fails(why, full(3), p)
	}
	fails("one class", example(), classes.Refine())
	fails("a and b are not told apart", example(), classes.Refine(octets.Of('a', 'b'), octets.Of('c')))
	fails("c is told apart from nothing", example(), classes.Refine(octets.Of('a'), octets.Of('b')))
	// A spot counts, though no run comes into it.
	m := example()
	m.First, m.Last = nil, make([]bool, 3)
	fails("no run", m, classes.Refine(octets.Of('a'), octets.Of('b')))
	m = full(250)
	m.Spots[249].Set = octets.Not(octets.Of(255))
	fails("the last spot's last byte", m, classes.Refine())
	fails("the last spot's last byte", m, classes.Refine(octets.Of(254)))
	fails("the last spot's last byte", m, classes.Refine(octets.Of(255, 0)))
	if pays.Spent() != 0 {
		t.Errorf("%d spent", pays.Spent())
	}
	if d := built(t, m, classes.Refine(octets.Of(255))); len(d.Next) != 3 {
		t.Errorf("%d states", len(d.Next))
	}
}

// P11.2: automata of constraints, written down.
func TestMasks(t *testing.T) {
	one := classes.Refine()
	for _, x := range []struct {
		text  string
		p     classes.Part
		next  [][]int
		final []bool
	}{
		{"", one, [][]int{{1}, {1}}, []bool{true, false}},
		{"!", one, [][]int{{1}, {1}}, []bool{false, true}},
		{"[]", one, [][]int{{1}, {1}}, []bool{false, false}},
		{".", one, [][]int{{1}, {2}, {2}}, []bool{false, true, false}},
		{"!.", letters(), [][]int{{1, 1, 1, 1}, {2, 2, 2, 2}, {2, 2, 2, 2}}, []bool{true, false, true}},
		{".*", one, [][]int{{1}, {1}}, []bool{true, true}},
		{"ab|c", letters(), [][]int{{1, 2, 1, 3}, {1, 1, 1, 1}, {1, 1, 4, 1}, {1, 1, 1, 1}, {1, 1, 1, 1}}, []bool{false, false, false, true, true}},
		{"a*&!aa", classes.Refine(octets.Of('a')), [][]int{{1, 2}, {1, 1}, {1, 3}, {1, 4}, {1, 4}}, []bool{true, false, true, false, true}},
		{`\x00*`, classes.Refine(octets.Of(0)), [][]int{{1, 2}, {1, 2}, {2, 2}}, []bool{true, true, false}},
	} {
		if d := masked(t, read(t, x.text), x.p); !same(d, dfa.DFA{Part: x.p, Next: x.next, Final: x.final}) {
			t.Errorf("%s: %v, %v", x.text, d.Next, d.Final)
		}
	}
}

// P11.2: Masks against the model, state by state.
func TestMasksModel(t *testing.T) {
	plan := chance(4)
	for i, text := range constraints() {
		c := read(t, text)
		for j, p := range plan.partitions(c.Sets()) {
			if j == 2 && i%5 > 0 {
				continue // single bytes take their time
			}
			if d, want := masked(t, c, p), ofCons(c, p); !same(d, want) {
				t.Fatalf("%s: %v, %v, not %v, %v", text, d.Next, d.Final, want.Next, want.Final)
			}
		}
	}
}

// P11.2: ErrNil and ErrArg of Masks, and which is ahead.
func TestMasksWrong(t *testing.T) {
	pays := purse.New(0)
	fails := func(why string, c *cons.Cons, p classes.Part, want api.Errno) {
		t.Helper()
		if d, e := dfa.Masks(c, p, pays); e != want || !nothing(d) || pays.Spent() != 0 {
			t.Errorf("%s: %v, %d, %d spent", why, d, e, pays.Spent())
		}
	}
	fails("nil", nil, letters(), api.ErrNil)
	for why, p := range wrongParts() {
		fails(why, nil, p, api.ErrNil)
		fails(why, read(t, ""), p, api.ErrArg)
		fails(why, read(t, "ab"), p, api.ErrArg)
	}
	fails("one class", read(t, "a"), classes.Refine(), api.ErrArg)
	fails("the second part", read(t, "a&!b"), classes.Refine(octets.Of('a')), api.ErrArg)
	fails("a set that does not matter", read(t, "a|[]b"), classes.Refine(octets.Of('a')), api.ErrArg)
	fails("a set of two", read(t, "[ab]"), classes.Refine(octets.Of('a', 'c'), octets.Of('b', 'd')), api.ErrArg)
	fails("all but one", read(t, "[^\\xff]"), classes.Refine(octets.Of(0)), api.ErrArg)
}

// R1: one that was not made of a tree does not panic.
func TestMasksUnmade(t *testing.T) {
	d := masked(t, new(cons.Cons), letters())
	for _, w := range words(3, 'a', 'b') {
		if dfa.Run(d, w) != new(cons.Cons).Match(w) {
			t.Errorf("%q", w)
		}
	}
}

// P11.3: Not keeps all but what is final, states that are not reached too.
func TestNot(t *testing.T) {
	d := dfa.DFA{Part: letters(), Next: [][]int{{0, 1, 0, 1}, {1, 1, 0, 0}, {3, 2, 1, 0}, {3, 3, 3, 3}}, Final: []bool{true, false, false, true}}
	n, e := dfa.Not(d)
	if e != api.OK || !same(n, dfa.DFA{Part: d.Part, Next: d.Next, Final: []bool{false, true, true, false}}) {
		t.Errorf("%v, %v, %d", n.Next, n.Final, e)
	}
	plan := chance(5)
	for i := range 100 {
		d := plan.automaton(plan.partitions(nil)[i%3], 1+plan.below(20))
		n, e := dfa.Not(d)
		again, f := dfa.Not(n)
		if e != api.OK || f != api.OK || !same(again, d) || !slices.EqualFunc(n.Final, d.Final, func(x, y bool) bool { return x != y }) {
			t.Fatalf("%v, %v: %v, %v", d.Next, d.Final, n.Next, n.Final)
		}
		for _, w := range words(3, 'a', 'b', 0xff) {
			if dfa.Run(n, w) == dfa.Run(d, w) {
				t.Fatalf("%q: both do", w)
			}
		}
	}
}

// P11.3: Both, written down.
func TestBoth(t *testing.T) {
	p := classes.Refine(octets.Of('a'))
	// An odd number of a; no text that ends with a, but of no bytes; and states that are not reached.
	odd := dfa.DFA{Part: p, Next: [][]int{{0, 1}, {1, 0}}, Final: []bool{false, true}}
	end := dfa.DFA{Part: p, Next: [][]int{{2, 0}, {1, 1}, {2, 0}}, Final: []bool{false, true, true}}
	next := [][]int{{1, 2}, {1, 2}, {3, 0}, {3, 0}}
	for how, final := range map[uint8][]bool{
		dfa.And: {false, false, false, true},
		dfa.Or:  {false, true, true, true},
		dfa.Xor: {false, true, true, false},
	} {
		x, e := dfa.Both(odd, end, how, nil)
		if e != api.OK || !same(x, dfa.DFA{Part: p, Next: next, Final: final}) {
			t.Errorf("how %d: %v, %v, %d", how, x.Next, x.Final, e)
		}
	}
}

// P11.3: the pair of the states 0 may come again.
func TestBothBack(t *testing.T) {
	cycle := func(many int) dfa.DFA {
		d := dfa.DFA{Part: classes.Refine()}
		for k := range many {
			d.Next = append(d.Next, []int{(k + 1) % many})
			d.Final = append(d.Final, k == 0)
		}
		return d
	}
	x, e := dfa.Both(cycle(4), cycle(6), dfa.And, nil)
	if e != api.OK || !same(x, cycle(12)) {
		t.Errorf("%v, %v, %d", x.Next, x.Final, e)
	}
}

// P11.3: Both against the model, state by state.
func TestBothModel(t *testing.T) {
	plan := chance(6)
	for i := range 150 {
		p := plan.partitions([]api.Set{plan.set(), octets.Of('b')})[i%2]
		a, b := plan.automaton(p, 1+plan.below(12)), plan.automaton(p, 1+plan.below(12))
		for how := uint8(1); how <= 3; how++ {
			x, e := dfa.Both(a, b, how, nil)
			if want := ofBoth(a, b, how); e != api.OK || !dfa.Right(x) || !same(x, want) {
				t.Fatalf("how %d: %v, %v, %d, not %v, %v", how, x.Next, x.Final, e, want.Next, want.Final)
			}
		}
	}
}

// P11.3: ErrArg of Both, of automata that are right.
func TestBothWrong(t *testing.T) {
	plan := chance(7)
	a := plan.automaton(letters(), 3)
	pays := purse.New(0)
	fails := func(why string, x, y dfa.DFA, how uint8) {
		t.Helper()
		if d, e := dfa.Both(x, y, how, pays); e != api.ErrArg || !nothing(d) || pays.Spent() != 0 {
			t.Errorf("%s: %v, %d, %d spent", why, d, e, pays.Spent())
		}
	}
	for how := range 256 {
		if how < 1 || how > 3 {
			fails(fmt.Sprint("how ", how), a, a, uint8(how))
		}
	}
	for i, p := range []classes.Part{
		classes.Refine(), single(), classes.Refine(octets.Of('a'), octets.Of('b')),
		classes.Refine(octets.Of('a'), octets.Of('b'), octets.Of('d')), // as many classes
		classes.Refine(octets.Of('a'), octets.Of('b'), octets.Of('c', 0xff)),
	} {
		b := plan.automaton(p, 3)
		for how := uint8(1); how <= 3; how++ {
			fails(fmt.Sprint("the partition ", i), a, b, how)
			fails(fmt.Sprint("the partition ", i), b, a, how)
		}
	}
}

// job is something that a purse pays, and how many states it makes.
type job struct {
	name   string
	do     func(pays *purse.Purse) (dfa.DFA, api.Errno)
	states int
}

// jobs are some of each kind.
func jobs(t *testing.T) []job {
	c := read(t, "a*b&!aab")
	d := built(t, example(), letters())
	m := masked(t, c, letters())
	return []job{
		{"Build", func(pays *purse.Purse) (dfa.DFA, api.Errno) { return dfa.Build(example(), letters(), pays) }, 5},
		{"Build of none", func(pays *purse.Purse) (dfa.DFA, api.Errno) { return dfa.Build(api.Machine{}, letters(), pays) }, 2},
		{"Build of late", func(pays *purse.Purse) (dfa.DFA, api.Errno) { return dfa.Build(late(6), letters(), pays) }, 1 + 1<<5},
		{"Masks", func(pays *purse.Purse) (dfa.DFA, api.Errno) { return dfa.Masks(c, letters(), pays) }, len(m.Next)},
		{"Masks of .", func(pays *purse.Purse) (dfa.DFA, api.Errno) { return dfa.Masks(read(t, "."), single(), pays) }, 3},
		{"And", func(pays *purse.Purse) (dfa.DFA, api.Errno) { return dfa.Both(d, m, dfa.And, pays) }, len(ofBoth(d, m, dfa.And).Next)},
		{"Or", func(pays *purse.Purse) (dfa.DFA, api.Errno) { return dfa.Both(m, d, dfa.Or, pays) }, len(ofBoth(m, d, dfa.Or).Next)},
		{"Xor", func(pays *purse.Purse) (dfa.DFA, api.Errno) { return dfa.Both(d, d, dfa.Xor, pays) }, 5},
	}
}

// P11.4, P11.5: what is paid, of all budgets: as many as there are states, or till it is overspent.
func TestPays(t *testing.T) {
	for _, j := range jobs(t) {
		want, _ := j.do(nil)
		if len(want.Next) != j.states {
			t.Errorf("%s: %d states, not %d", j.name, len(want.Next), j.states)
		}
		for whole := range j.states + 3 {
			for _, more := range []float64{0, 0.5} {
				p := purse.New(float64(whole) + more)
				var d dfa.DFA
				e := api.ErrNone
				ok := p.Run(func() { d, e = j.do(p) })
				if spent := min(whole+1, j.states); ok != (whole >= j.states) || p.Spent() != uint64(spent) || p.Over() == ok {
					t.Fatalf("%s: a budget of %d: %v, %d spent", j.name, whole, ok, p.Spent())
				}
				if ok && (e != api.OK || !same(d, want)) || !ok && (e != api.ErrNone || !nothing(d)) {
					t.Fatalf("%s: a budget of %d: %v, %d", j.name, whole, d, e)
				}
			}
		}
	}
}

// P11.4: purses of all kinds of budgets.
func TestPaysBudgets(t *testing.T) {
	for _, j := range jobs(t) {
		for _, budget := range []float64{0, math.Copysign(0, -1), -1, math.NaN(), math.Inf(-1), 0.5} {
			p := purse.New(budget)
			if p.Run(func() { j.do(p) }) || p.Spent() != 1 || !p.Over() {
				t.Errorf("%s: %v: %d spent", j.name, budget, p.Spent())
			}
		}
		for _, budget := range []float64{math.Inf(1), 1e300, 1e9} {
			p := purse.New(budget)
			if !p.Run(func() { j.do(p) }) || p.Spent() != uint64(j.states) || p.Over() {
				t.Errorf("%s: %v: %d spent", j.name, budget, p.Spent())
			}
		}
	}
}

// P11.4: one purse pays for many.
func TestPaysOnAndOn(t *testing.T) {
	sum := 0
	p := purse.New(1e6)
	for _, j := range jobs(t) {
		sum += j.states
		if !p.Run(func() { j.do(p) }) || p.Spent() != uint64(sum) {
			t.Errorf("%s: %d spent, not %d", j.name, p.Spent(), sum)
		}
	}
}

// panics is what a call panics with, of another purse's Run.
func panics(do func()) (with any) {
	defer func() { with = recover() }()
	purse.New(math.Inf(1)).Run(do)
	return nil
}

// P11.4: the panic is the purse's own, and only a purse that is overspent panics.
func TestPanics(t *testing.T) {
	for _, j := range jobs(t) {
		p := purse.New(1)
		want := panics(func() { p.Spend(2) })
		if got := panics(func() { j.do(p) }); want == nil || got != want || p.Spent() != 3 {
			t.Errorf("%s: %v, %d spent", j.name, got, p.Spent())
		}
		for _, free := range []*purse.Purse{nil, purse.New(float64(j.states))} {
			if got := panics(func() { j.do(free) }); got != nil {
				t.Errorf("%s: it panics: %v", j.name, got)
			}
		}
	}
}

// P11.4: each state is paid as it is made: where there are more of them than can be made, the budget ends it.
func TestPaysAtOnce(t *testing.T) {
	// What nobody pays for would not end here.
	for _, j := range jobs(t) {
		p := purse.New(1e6)
		if j.do(p); p.Spent() != uint64(j.states) {
			t.Fatalf("%s: %d spent", j.name, p.Spent())
		}
	}
	many := built(t, late(12), classes.Refine(octets.Of('a')))
	turned, _ := dfa.Not(many)
	slices.Reverse(turned.Final)
	long := dfa.DFA{Part: many.Part}
	for k := range 50000 {
		long.Next = append(long.Next, []int{(k + 1) % 50000, (k + 1) % 50000})
		long.Final = append(long.Final, false)
	}
	for name, do := range map[string]func(p *purse.Purse){
		"Build": func(p *purse.Purse) { dfa.Build(late(250), letters(), p) },
		"Masks": func(p *purse.Purse) { dfa.Masks(read(t, ".*a"+strings.Repeat(".", 60)), letters(), p) },
		"Both":  func(p *purse.Purse) { dfa.Both(turned, long, dfa.Or, p) },
	} {
		p := purse.New(5000)
		if p.Run(func() { do(p) }) || p.Spent() != 5001 {
			t.Errorf("%s: %d spent", name, p.Spent())
		}
	}
}

// P11.5: Build's automaton takes just what the machine does; each state is reached, and was paid.
func TestBuildTakes(t *testing.T) {
	plan := chance(8)
	tried := words(6, 'a', 'b', 'c')
	taken := 0
	for i := range 200 {
		m := plan.machine(plan.below(8))
		pays := purse.New(1e6)
		d, e := dfa.Build(m, plan.partitions(nfa.Sets(m))[i%3], pays)
		if e != api.OK || !dfa.Right(d) || !reached(d) || pays.Spent() != uint64(len(d.Next)) {
			t.Fatalf("%v: %v, %d, %d spent", m, d.Next, e, pays.Spent())
		}
		for _, w := range tried[:min(len(tried), 5000/d.N)] {
			if want := takes(m, w); dfa.Run(d, w) != want || nfa.Run(m, w) != want {
				t.Fatalf("%v: Run(%q): %v", m, w, !want)
			} else if want {
				taken++
			}
		}
	}
	// Else the machines would not be worth trying.
	if taken < 5000 {
		t.Errorf("only %d texts were taken", taken)
	}
}

// P11.5: all bytes of a class are read alike, the least one and the greatest one, as the machine does.
func TestBuildClasses(t *testing.T) {
	plan := chance(9)
	for range 60 {
		m := plan.wide(1 + plan.below(6))
		d := byMachine(t, m)
		var some []byte
		for _, s := range d.Sets() {
			list := octets.List(s)
			some = append(some, list[0], list[len(list)/2], list[len(list)-1])
		}
		for _, w := range words(2, some...) {
			if dfa.Run(d, w) != takes(m, w) {
				t.Fatalf("%v: Run(%q): %v", m, w, dfa.Run(d, w))
			}
		}
	}
}

// P11.5: Masks' automaton takes just what the constraint matches; each state is reached, and was paid.
func TestMasksTakes(t *testing.T) {
	plan := chance(10)
	for i, text := range constraints() {
		c := read(t, text)
		pays := purse.New(1e6)
		d, e := dfa.Masks(c, plan.partitions(c.Sets())[i%3], pays)
		if e != api.OK || !dfa.Right(d) || !reached(d) || pays.Spent() != uint64(len(d.Next)) {
			t.Fatalf("%s: %v, %d, %d spent", text, d.Next, e, pays.Spent())
		}
		for _, w := range slices.Concat(words(5, 'a', 'b', 'c'), words(2, 0, 0x1f, ' ', 'a', 0xfe, 0xff), []string{strings.Repeat("a", 63), strings.Repeat("a", 18)}) {
			if dfa.Run(d, w) != c.Match(w) {
				t.Fatalf("%s: Run(%q): %v", text, w, dfa.Run(d, w))
			}
		}
	}
}

// P11.5: Both's automaton takes what how says of the two; each state is reached, and was paid.
func TestBothTakes(t *testing.T) {
	plan := chance(11)
	p := letters()
	for range 60 {
		m, n := plan.machine(plan.below(7)), plan.machine(plan.below(7))
		c := read(t, constraints()[plan.below(21)])
		a, b, k := built(t, m, p), built(t, n, p), masked(t, c, p)
		for how := uint8(1); how <= 3; how++ {
			for _, x := range []struct {
				a, b  dfa.DFA
				other func(w string) bool
			}{{a, b, func(w string) bool { return takes(n, w) }}, {a, k, c.Match}} {
				pays := purse.New(1e6)
				d, e := dfa.Both(x.a, x.b, how, pays)
				if e != api.OK || !dfa.Right(d) || !reached(d) || pays.Spent() != uint64(len(d.Next)) {
					t.Fatalf("how %d: %v, %d, %d spent", how, d.Next, e, pays.Spent())
				}
				for _, w := range words(4, 'a', 'b', 'c', 'd') {
					if dfa.Run(d, w) != says(how, takes(m, w), x.other(w)) {
						t.Fatalf("how %d: %v: Run(%q): %v", how, m, w, dfa.Run(d, w))
					}
				}
			}
		}
	}
}

// scribble is of each list of d what fills it, its spare room too, with something else.
func scribble(d dfa.DFA) []func() {
	fills := []func(){
		func() {
			for i, is := range d.Final[:cap(d.Final)] {
				d.Final[:cap(d.Final)][i] = !is
			}
		},
		func() {
			for i := range d.Next[:cap(d.Next)] {
				d.Next[:cap(d.Next)][i] = []int{4321}
			}
		},
	}
	for _, list := range d.Next {
		fills = append(fills, func() {
			for i := range list[:cap(list)] {
				list[:cap(list)][i] = 5678
			}
		})
	}
	return fills
}

// P11.4, R4: what is told is memory of its own: no list of it shares any with another one, nor with what was handed in.
func TestOwnMemory(t *testing.T) {
	plan := chance(12)
	c := read(t, "a*b&!aab")
	m := roomyMachine(example())
	a, b := roomy(plan.automaton(letters(), 4)), roomy(plan.automaton(letters(), 5))
	shared := dfa.DFA{Part: letters(), Next: slices.Repeat([][]int{{1, 0, 2, 1}}, 3), Final: make([]bool, 3)} // one list in three places
	handed := func() string { return all(a) + all(b) + all(shared) + allOf(m) + fmt.Sprint(c.Sets()) }
	for name, tell := range map[string]func() (dfa.DFA, api.Errno){
		"Build":         func() (dfa.DFA, api.Errno) { return dfa.Build(m, letters(), nil) },
		"Masks":         func() (dfa.DFA, api.Errno) { return dfa.Masks(c, letters(), nil) },
		"Not":           func() (dfa.DFA, api.Errno) { return dfa.Not(a) },
		"Not of shared": func() (dfa.DFA, api.Errno) { return dfa.Not(shared) },
		"Both":          func() (dfa.DFA, api.Errno) { return dfa.Both(a, b, dfa.Or, nil) },
	} {
		was := handed()
		first, _ := tell()
		for i := range scribble(first) {
			d, _ := tell()
			lists := slices.Clone(d.Next)
			scribble(d)[i]()
			again, e := tell()
			if handed() != was || e != api.OK || !same(again, first) {
				t.Fatalf("%s: the list %d: it shares memory with what was handed in", name, i)
			}
			for k, list := range lists {
				if i != k+2 && !slices.Equal(list, first.Next[k]) {
					t.Fatalf("%s: the list %d shares memory with the list of the state %d", name, i, k)
				}
			}
		}
	}
}

// R3, R4: nothing that is handed in is changed, its spare room neither, and what is told is told again.
func TestUnchanged(t *testing.T) {
	plan := chance(13)
	for range 50 {
		m := roomyMachine(plan.machine(plan.below(9)))
		a, b := roomy(plan.automaton(letters(), 1+plan.below(9))), roomy(plan.automaton(letters(), 1+plan.below(9)))
		was := allOf(m) + all(a) + all(b)
		c := read(t, "(a|b)*a(a|b){2}&!c")
		tell := func() string {
			x, e := dfa.Build(m, letters(), nil)
			y, f := dfa.Masks(c, letters(), nil)
			n, g := dfa.Not(a)
			z, h := dfa.Both(a, b, dfa.Xor, nil)
			return fmt.Sprint(x, e, y, f, n, g, z, h, dfa.Right(a), dfa.Run(a, "abca"), dfa.Run(b, "zz"))
		}
		first := tell()
		if tell() != first {
			t.Fatalf("%v: told otherwise the second time", m)
		}
		if allOf(m)+all(a)+all(b) != was {
			t.Fatalf("%v: it was changed", m)
		}
	}
}

// P11.2: automata of many states come soon enough, with all of them.
func TestManyStates(t *testing.T) {
	p := classes.Refine(octets.Of('a'))
	d := built(t, late(17), p)
	if len(d.Next) != 1+1<<16 {
		t.Errorf("Build: %d states", len(d.Next))
	}
	k := masked(t, read(t, ".*a"+strings.Repeat(".", 15)), p)
	if len(k.Next) != 1+1<<16 {
		t.Errorf("Masks: %d states", len(k.Next))
	}
	x, e := dfa.Both(d, k, dfa.Xor, nil)
	if e != api.OK || slices.Contains(x.Final, true) {
		t.Errorf("Both: %d states, %d", len(x.Next), e)
	}
	text := strings.Repeat("ab\xff", 1<<16)
	if !dfa.Run(d, text+"a"+text[:15]) || dfa.Run(d, text+"b"+text[:15]) {
		t.Errorf("Run of a long text")
	}
}
