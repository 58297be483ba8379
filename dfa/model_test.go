package dfa_test

import (
	"fmt"
	"slices"
	"strings"
	"testing"

	"shibboleth/api"
	"shibboleth/classes"
	"shibboleth/cons"
	"shibboleth/dfa"
	"shibboleth/nfa"
	"shibboleth/octets"
)

// spot is a spot of these bytes.
func spot(letters string) api.Spot {
	return api.Spot{Set: octets.Of([]byte(letters)...)}
}

// example is the chapter's machine: it takes ab, and no bytes.
func example() api.Machine {
	return api.Machine{
		Spots:  []api.Spot{spot("a"), spot("b"), spot("c")},
		First:  []int{0},
		Follow: [][]int{{1, 2}, nil, nil},
		Last:   []bool{false, true, false},
		Empty:  true,
	}
}

// full is a machine of many spots, of all bytes, each of which is first, last and behind each.
func full(many int) api.Machine {
	m := api.Machine{Spots: make([]api.Spot, many), First: make([]int, many), Follow: make([][]int, many), Last: make([]bool, many)}
	for k := range many {
		m.First[k] = k
	}
	for k := range many {
		m.Spots[k].Set = octets.All()
		m.Follow[k] = slices.Clone(m.First)
		m.Last[k] = true
	}
	return m
}

// late is a machine of many spots that takes the texts with an a so many bytes ahead of the end: its automaton has 2 to the power of many states, or nearly so.
func late(many int) api.Machine {
	m := api.Machine{Spots: make([]api.Spot, many), First: []int{0, 1}, Follow: make([][]int, many), Last: make([]bool, many)}
	for k := range many {
		m.Spots[k].Set = octets.All()
		if k > 1 {
			m.Follow[k-1] = []int{k}
		}
	}
	m.Spots[1].Set = octets.Of('a')
	m.Follow[0] = []int{0, 1}
	m.Last[many-1] = true
	return m
}

// letters is the chapter's partition, of the letters a, b, c.
func letters() classes.Part {
	return classes.Refine(octets.Of('a'), octets.Of('b'), octets.Of('c'))
}

// single is the partition of which each class is one byte.
func single() classes.Part {
	var p classes.Part
	for c := range p.Of {
		p.Of[c] = uint8(c)
	}
	p.N = 256
	return p
}

// read is the constraint of a text.
func read(t *testing.T, text string) *cons.Cons {
	t.Helper()
	c, _, e := cons.Read(text)
	if e != api.OK {
		t.Fatalf("%s is no constraint's text", text)
	}
	return c
}

// constraints are texts of constraints.
func constraints() []string {
	return []string{
		"", "a", ".", "[]", "[^]", "[^a]", "!", "!a", "!.", "!.*", "&", "ab|c", "(ab)*", "a{2,3}", "a{0}", "a*b&!aab", "a*&!aa", "!.*&!.*", "(a|b)*a(a|b){2}", "a&b", "!a&!b",
		`[\x00-\x1f]*|\xff`, "(a?){3}", "[]*", "a+b*&!.*c.*", "((a|b)(b|c))+", "!(.{9}){2}", ".*a&b.*&!.*c.*", "(ab?){1,4}&!ab{2}", strings.Repeat("a", 63),
	}
}

// words are all words of these bytes with n bytes at most.
func words(n int, letters ...byte) []string {
	all, now := []string{""}, []string{""}
	for range n {
		var longer []string
		for _, w := range now {
			for _, c := range letters {
				longer = append(longer, w+string([]byte{c}))
			}
		}
		all, now = append(all, longer...), longer
	}
	return all
}

// chance is a row of numbers without a plan.
type chance uint64

// below is the next one from 0 to n-1.
func (c *chance) below(n int) int {
	*c = *c*6364136223846793005 + 1442695040888963407
	x := uint64(*c)
	x ^= x >> 29
	return int(x >> 33 % uint64(n))
}

// numbers is a rising list of numbers of many spots; each stands in it once in so many times.
func (c *chance) numbers(many, once int) []int {
	var list []int
	for k := range many {
		if c.below(once) == 0 {
			list = append(list, k)
		}
	}
	return list
}

// machine is a right machine without a plan, of many spots, of letters of a, b and c.
func (c *chance) machine(many int) api.Machine {
	m := api.Machine{First: c.numbers(many, 1+many/3), Empty: c.below(2) == 0}
	for range many {
		s := api.Spot{Tag: uint8(c.below(3))}
		for _, b := range []byte("abc") {
			if c.below(2) == 0 {
				s.Set = octets.Or(s.Set, octets.Of(b))
			}
		}
		m.Spots = append(m.Spots, s)
		m.Follow = append(m.Follow, c.numbers(many, 1+many/3))
		m.Last = append(m.Last, c.below(4) == 0)
	}
	return m
}

// set is a set of bytes without a plan: some that stand side by side.
func (c *chance) set() api.Set {
	from := byte(c.below(256))
	return octets.Range(from, from+byte(c.below(100)))
}

// wide is a right machine without a plan, of many spots of any bytes.
func (c *chance) wide(many int) api.Machine {
	m := c.machine(many)
	for k := range m.Spots {
		m.Spots[k].Set = c.set()
	}
	return m
}

// automaton is a right automaton without a plan, of many states; not each of them is reached.
func (c *chance) automaton(p classes.Part, many int) dfa.DFA {
	d := dfa.DFA{Part: p}
	for range many {
		next := make([]int, p.N)
		for class := range next {
			next[class] = c.below(many)
		}
		d.Next = append(d.Next, next)
		d.Final = append(d.Final, c.below(3) == 0)
	}
	return d
}

// partitions are some of which none is too coarse for the sets.
func (c *chance) partitions(sets []api.Set) []classes.Part {
	return []classes.Part{
		classes.Refine(sets...),
		classes.Refine(append(slices.Clone(sets), c.set(), octets.Of('a'), octets.Of('c'))...),
		single(),
	}
}

// begun tells whether a run may read w into one of the spots, and on, and end well.
func begun(m api.Machine, spots []int, w string) bool {
	for _, k := range spots {
		if !octets.Has(m.Spots[k].Set, w[0]) {
			continue
		}
		if len(w) == 1 && m.Last[k] || len(w) > 1 && begun(m, m.Follow[k], w[1:]) {
			return true
		}
	}
	return false
}

// takes tells whether the machine does: the chapter's words, run by run.
func takes(m api.Machine, w string) bool {
	if w == "" {
		return m.Empty
	}
	return begun(m, m.First, w)
}

// made is the model of how states are made, which are texts: they stand in a list, and are sought in it from its beginning. Of each class its greatest byte is read.
func made(p classes.Part, first string, behind func(s string, c byte) string, final func(s string) bool) dfa.DFA {
	states := []string{first}
	d := dfa.DFA{Part: p}
	for n := 0; n < len(states); n++ {
		var next []int
		for _, s := range p.Sets() {
			list := octets.List(s)
			to := behind(states[n], list[len(list)-1])
			if !slices.Contains(states, to) {
				states = append(states, to)
			}
			next = append(next, slices.Index(states, to))
		}
		d.Next = append(d.Next, next)
		d.Final = append(d.Final, final(states[n]))
	}
	return d
}

// ofMachine is the model of Build: a state is a byte for each spot in which a run is, or none.
func ofMachine(m api.Machine, p classes.Part) dfa.DFA {
	behind := func(s string, c byte) string {
		ahead := [][]int{m.First}
		if s != "nothing was read" {
			ahead = nil
			for k := range s {
				if s[k] == 'x' {
					ahead = append(ahead, m.Follow[k])
				}
			}
		}
		to := []byte(strings.Repeat("-", len(m.Spots)))
		for _, list := range ahead {
			for _, k := range list {
				if octets.Has(m.Spots[k].Set, c) {
					to[k] = 'x'
				}
			}
		}
		return string(to)
	}
	final := func(s string) bool {
		if s == "nothing was read" {
			return m.Empty
		}
		for k := range s {
			if s[k] == 'x' && m.Last[k] {
				return true
			}
		}
		return false
	}
	return made(p, "nothing was read", behind, final)
}

// mask is the number that a text tells.
func mask(s string) uint64 {
	var n uint64
	fmt.Sscan(s, &n)
	return n
}

// ofCons is the model of Masks: a state is the mask, written out.
func ofCons(c *cons.Cons, p classes.Part) dfa.DFA {
	behind := func(s string, b byte) string { return fmt.Sprint(c.Next(mask(s), b)) }
	return made(p, fmt.Sprint(c.Start()), behind, func(s string) bool { return c.Good(mask(s)) })
}

// says is what how says, of whether a state of each of two automata is final.
func says(how uint8, a, b bool) bool {
	many := 0
	for _, is := range []bool{a, b} {
		if is {
			many++
		}
	}
	return many == 2 && how != dfa.Xor || many == 1 && how != dfa.And
}

// ofBoth is the model of Both: a state is the two states' numbers, written out.
func ofBoth(a, b dfa.DFA, how uint8) dfa.DFA {
	two := func(s string) (x, y int) {
		fmt.Sscan(s, &x, &y)
		return x, y
	}
	behind := func(s string, c byte) string {
		x, y := two(s)
		return fmt.Sprint(a.Next[x][a.Of[c]], " ", b.Next[y][b.Of[c]])
	}
	final := func(s string) bool {
		x, y := two(s)
		return says(how, a.Final[x], b.Final[y])
	}
	return made(a.Part, "0 0", behind, final)
}

// same tells whether a and b are one automaton.
func same(a, b dfa.DFA) bool {
	return a.Part == b.Part && slices.EqualFunc(a.Next, b.Next, slices.Equal[[]int]) && slices.Equal(a.Final, b.Final)
}

// nothing tells whether d is the zero value.
func nothing(d dfa.DFA) bool {
	return d.Part == classes.Part{} && len(d.Next) == 0 && len(d.Final) == 0
}

// reached tells whether each state of d is reached from the state 0.
func reached(d dfa.DFA) bool {
	seen := map[int]int{0: 1}
	list := []int{0}
	for i := 0; i < len(list); i++ {
		for _, to := range d.Next[list[i]] {
			if seen[to] == 0 {
				seen[to] = 1
				list = append(list, to)
			}
		}
	}
	return len(list) == len(d.Next)
}

// built is the automaton of m with p, which nobody pays.
func built(t *testing.T, m api.Machine, p classes.Part) dfa.DFA {
	t.Helper()
	d, e := dfa.Build(m, p, nil)
	if e != api.OK || !dfa.Right(d) {
		t.Fatalf("Build of %v: %v, %v, %d", m, d.Next, d.Final, e)
	}
	return d
}

// masked is the automaton of c with p, which nobody pays.
func masked(t *testing.T, c *cons.Cons, p classes.Part) dfa.DFA {
	t.Helper()
	d, e := dfa.Masks(c, p, nil)
	if e != api.OK || !dfa.Right(d) {
		t.Fatalf("Masks: %v, %v, %d", d.Next, d.Final, e)
	}
	return d
}

// all is d with its lists' spare room, as a text.
func all(d dfa.DFA) string {
	text := fmt.Sprint(d.Part, d.Next[:cap(d.Next)], d.Final[:cap(d.Final)])
	for _, list := range d.Next[:cap(d.Next)] {
		text += fmt.Sprint(list[:cap(list)])
	}
	return text
}

// roomy is d with spare room behind each list, where there is something.
func roomy(d dfa.DFA) dfa.DFA {
	r := dfa.DFA{Part: d.Part, Final: slices.Concat(d.Final, []bool{true, false, true})[:len(d.Final)]}
	for _, list := range d.Next {
		r.Next = append(r.Next, slices.Concat(list, []int{-6, 99})[:len(list)])
	}
	r.Next = append(r.Next, []int{4, 2}, []int{7})[:len(d.Next)]
	return r
}

// allOf is m with its lists' spare room, as a text.
func allOf(m api.Machine) string {
	text := fmt.Sprint(m.Spots[:cap(m.Spots)], m.First[:cap(m.First)], m.Follow[:cap(m.Follow)], m.Last[:cap(m.Last)], m.Empty)
	for _, list := range m.Follow[:cap(m.Follow)] {
		text += fmt.Sprint(list[:cap(list)])
	}
	return text
}

// roomyMachine is m with spare room behind each list, where there is something.
func roomyMachine(m api.Machine) api.Machine {
	r := m
	r.Spots = slices.Concat(m.Spots, []api.Spot{spot("q"), spot("r")})[:len(m.Spots)]
	r.First = slices.Concat(m.First, []int{-5, 88})[:len(m.First)]
	r.Last = slices.Concat(m.Last, []bool{true, false, true})[:len(m.Last)]
	r.Follow = nil
	for _, list := range m.Follow {
		r.Follow = append(r.Follow, slices.Concat(list, []int{-6, 99})[:len(list)])
	}
	r.Follow = append(r.Follow, []int{4, 2}, []int{7})[:len(m.Follow)]
	return r
}

// wrongParts are partitions that are not right, by what is wrong of them.
func wrongParts() map[string]classes.Part {
	wrong := map[string]classes.Part{"zero": {}}
	for why, turn := range map[string]func(p *classes.Part){
		"N is too small":                     func(p *classes.Part) { p.N-- },
		"N is too great":                     func(p *classes.Part) { p.N++ },
		"N is 0":                             func(p *classes.Part) { p.N = 0 },
		"N is below 0":                       func(p *classes.Part) { p.N = -p.N },
		"N is the least number":              func(p *classes.Part) { p.N = -1 << 63 },
		"N is the greatest number":           func(p *classes.Part) { p.N = 1<<63 - 1 },
		"N is greater by 256":                func(p *classes.Part) { p.N += 256 },
		"no byte of a class":                 func(p *classes.Part) { p.Of['b'] = 0 },
		"the first byte isn't of the first":  func(p *classes.Part) { p.Of[0] = 1 },
		"a class is too great":               func(p *classes.Part) { p.Of[255] = 255 },
		"not numbered by the least bytes":    func(p *classes.Part) { p.Of['a'], p.Of['b'] = p.Of['b'], p.Of['a'] },
		"a later byte is of one too great":   func(p *classes.Part) { p.Of[200] = uint8(p.N) },
		"an early byte is of the last class": func(p *classes.Part) { p.Of[5] = 3 },
	} {
		p := letters()
		turn(&p)
		wrong[why] = p
	}
	return wrong
}

// wrong are automata that are not right, by what is wrong of them.
func wrong(t *testing.T) map[string]dfa.DFA {
	most := map[string]dfa.DFA{
		"zero":                              {},
		"no states":                         {Part: letters()},
		"no states, one class":              {Part: classes.Refine()},
		"no states, but one that is final":  {Part: letters(), Final: []bool{true}},
		"one state, of which nothing tells": {Part: classes.Refine(), Next: [][]int{{0}}},
		"one state without a list":          {Part: classes.Refine(), Next: [][]int{nil}, Final: []bool{true}},
		"a partition that is zero":          {Next: [][]int{{}}, Final: []bool{true}},
	}
	for why, turn := range map[string]func(d *dfa.DFA){
		"Final is too short":         func(d *dfa.DFA) { d.Final = d.Final[:4] },
		"Final is too long":          func(d *dfa.DFA) { d.Final = append(d.Final, true) },
		"Final is none":              func(d *dfa.DFA) { d.Final = nil },
		"Next is too short":          func(d *dfa.DFA) { d.Next = d.Next[:4] },
		"Next is too long":           func(d *dfa.DFA) { d.Next = append(d.Next, []int{0, 0, 0, 0}) },
		"Next is none":               func(d *dfa.DFA) { d.Next = nil },
		"the first list is none":     func(d *dfa.DFA) { d.Next[0] = nil },
		"the last list is none":      func(d *dfa.DFA) { d.Next[4] = []int{} },
		"a list is too short":        func(d *dfa.DFA) { d.Next[2] = []int{1, 1, 3} },
		"a list is too long":         func(d *dfa.DFA) { d.Next[2] = []int{1, 1, 3, 4, 0} },
		"a list of all bytes":        func(d *dfa.DFA) { d.Next[3] = make([]int, 256) },
		"a number below 0":           func(d *dfa.DFA) { d.Next[0][0] = -1 },
		"a last number below 0":      func(d *dfa.DFA) { d.Next[4][3] = -1 },
		"a number that is too great": func(d *dfa.DFA) { d.Next[0][1] = 5 },
		"a last one too great":       func(d *dfa.DFA) { d.Next[4][3] = 5 },
		"the least number":           func(d *dfa.DFA) { d.Next[3][2] = -1 << 63 },
		"the greatest number":        func(d *dfa.DFA) { d.Next[3][2] = 1<<63 - 1 },
		"a number greater by 2^32":   func(d *dfa.DFA) { d.Next[1][1] = 1 << 32 },
	} {
		d := built(t, example(), letters())
		turn(&d)
		most[why] = d
	}
	for why, p := range wrongParts() {
		d := built(t, example(), letters())
		d.Part = p
		most["the partition: "+why] = d
	}
	return most
}

// wrongMachines are machines that are not right.
func wrongMachines() []api.Machine {
	tag, first, last, follow := example(), example(), example(), example()
	tag.Spots[1].Tag = 3
	first.First = []int{1, 0}
	last.Last = last.Last[:2]
	follow.Follow[0] = []int{1, 3}
	return []api.Machine{{Last: []bool{true}}, {First: []int{0}}, tag, first, last, follow, full(251), {Spots: make([]api.Spot, 300)}}
}

// byMachine is the automaton of m, with the partition of its own sets.
func byMachine(t *testing.T, m api.Machine) dfa.DFA {
	t.Helper()
	return built(t, m, classes.Refine(nfa.Sets(m)...))
}
