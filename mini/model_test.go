package mini_test

import (
	"fmt"
	"slices"
	"testing"

	"shibboleth/api"
	"shibboleth/classes"
	"shibboleth/cons"
	"shibboleth/dfa"
	"shibboleth/mini"
	"shibboleth/nfa"
	"shibboleth/octets"
)

// letters is the partition of the letters a, b, c.
func letters() classes.Part {
	return classes.Refine(octets.Of('a'), octets.Of('b'), octets.Of('c'))
}

// onlyA is the partition of the letter a.
func onlyA() classes.Part {
	return classes.Refine(octets.Of('a'))
}

// single is the partition of which each class is one byte.
func single() classes.Part {
	var p classes.Part
	for c := range p.Of {
		p.Of[c] = uint8(c)
	}
	p.N = 256
	return p
}

// example is chapter 11's automaton.
func example() dfa.DFA {
	return dfa.DFA{
		Part:  letters(),
		Next:  [][]int{{1, 2, 1, 1}, {1, 1, 1, 1}, {1, 1, 3, 4}, {1, 1, 1, 1}, {1, 1, 1, 1}},
		Final: []bool{true, false, false, true, false},
	}
}

// chance is a row of numbers without a plan.
type chance uint64

// below is the next one from 0 to n-1.
func (c *chance) below(n int) int {
	*c = *c*6364136223846793005 + 1442695040888963407
	x := uint64(*c)
	x ^= x >> 29
	return int(x >> 33 % uint64(n))
}

// automaton is a right one without a plan, of many states, of which one in so many is final.
func (c *chance) automaton(p classes.Part, many, once int) dfa.DFA {
	d := dfa.DFA{Part: p}
	for range many {
		list := make([]int, p.N)
		for class := range list {
			list[class] = c.below(many)
		}
		d.Next = append(d.Next, list)
		d.Final = append(d.Final, c.below(once) == 0)
	}
	return d
}

// row is the numbers from 0 to n-1, of which 0 stays the first one, and the others are in no order.
func (c *chance) row(n int) []int {
	row := make([]int, n)
	for i := range row {
		row[i] = i
	}
	for i := n - 1; i > 1; i-- {
		j := 1 + c.below(i)
		row[i], row[j] = row[j], row[i]
	}
	return row
}

// shuffled is d with its states, but for the state 0, numbered anew.
func (c *chance) shuffled(d dfa.DFA) dfa.DFA {
	row := c.row(len(d.Next))
	x := dfa.DFA{Part: d.Part, Next: make([][]int, len(row)), Final: make([]bool, len(row))}
	for s, list := range d.Next {
		x.Final[row[s]] = d.Final[s]
		for _, to := range list {
			x.Next[row[s]] = append(x.Next[row[s]], row[to])
		}
	}
	return x
}

// blown is d with each state there so many times, and steps into any of these: it takes what d does.
func (c *chance) blown(d dfa.DFA, times int) dfa.DFA {
	x := dfa.DFA{Part: d.Part}
	for range times {
		for s, list := range d.Next {
			var next []int
			for _, to := range list {
				next = append(next, to+len(d.Next)*c.below(times))
			}
			x.Next = append(x.Next, next)
			x.Final = append(x.Final, d.Final[s])
		}
	}
	return x
}

// names are of the states of d names, the same just of those that are alike: first by whether they are final, then, again and again, by the names of the next ones too.
func names(d dfa.DFA) []int {
	all := make([]int, len(d.Next))
	for s, is := range d.Final {
		if is {
			all[s] = 1
		}
	}
	for range d.Next {
		known := map[string]int{}
		now := make([]int, len(all))
		for s, list := range d.Next {
			about := fmt.Sprint(all[s])
			for _, to := range list {
				about += fmt.Sprint(" ", all[to])
			}
			if _, is := known[about]; !is {
				known[about] = len(known)
			}
			now[s] = known[about]
		}
		if slices.Equal(all, now) {
			break
		}
		all = now
	}
	return all
}

// model is the least automaton of d by the chapter's words.
func model(d dfa.DFA) dfa.DFA {
	names := names(d)
	l := dfa.DFA{Part: d.Part}
	row := []int{names[0]}
	for i := 0; i < len(row); i++ {
		s := slices.Index(names, row[i])
		var next []int
		for _, to := range d.Next[s] {
			if !slices.Contains(row, names[to]) {
				row = append(row, names[to])
			}
			next = append(next, slices.Index(row, names[to]))
		}
		l.Next = append(l.Next, next)
		l.Final = append(l.Final, d.Final[s])
	}
	return l
}

// words are all words of these bytes with n bytes at most.
func words(n int, letters ...byte) []string {
	all, now := []string{""}, []string{""}
	for range n {
		var longer []string
		for _, w := range now {
			for _, c := range letters {
				longer = append(longer, w+string([]byte{c}))
			}
		}
		all, now = append(all, longer...), longer
	}
	return all
}

// small are all automata of the partition with so many states.
func small(p classes.Part, many int) []dfa.DFA {
	all := []dfa.DFA{{Part: p}}
	for range many {
		var more []dfa.DFA
		for _, d := range all {
			for _, list := range lists(p.N, many) {
				for _, final := range []bool{false, true} {
					more = append(more, dfa.DFA{Part: p, Next: append(slices.Clone(d.Next), list), Final: append(slices.Clone(d.Final), final)})
				}
			}
		}
		all = more
	}
	return all
}

// lists are all lists of n numbers below many.
func lists(n, many int) [][]int {
	all := [][]int{nil}
	for range n {
		var more [][]int
		for _, list := range all {
			for to := range many {
				more = append(more, append(slices.Clone(list), to))
			}
		}
		all = more
	}
	return all
}

// same tells whether a and b are one automaton, state by state.
func same(a, b dfa.DFA) bool {
	return a.Part == b.Part && slices.EqualFunc(a.Next, b.Next, slices.Equal[[]int]) && slices.Equal(a.Final, b.Final)
}

// nothing tells whether d is the zero value.
func nothing(d dfa.DFA) bool {
	return d.Part == classes.Part{} && len(d.Next) == 0 && len(d.Final) == 0
}

// least is the least automaton of d, which is right.
func least(t *testing.T, d dfa.DFA) dfa.DFA {
	t.Helper()
	l, e := mini.Least(d)
	if e != api.OK || !dfa.Right(l) {
		t.Fatalf("%v, %v: %v, %v, %d", d.Next, d.Final, l.Next, l.Final, e)
	}
	return l
}

// all is d with its lists' spare room, as a text.
func all(d dfa.DFA) string {
	text := fmt.Sprint(d.Part, d.Next[:cap(d.Next)], d.Final[:cap(d.Final)])
	for _, list := range d.Next[:cap(d.Next)] {
		text += fmt.Sprint(list[:cap(list)])
	}
	return text
}

// roomy is d with spare room behind each list, where there is something.
func roomy(d dfa.DFA) dfa.DFA {
	r := dfa.DFA{Part: d.Part, Final: slices.Concat(d.Final, []bool{true, false, true})[:len(d.Final)]}
	for _, list := range d.Next {
		r.Next = append(r.Next, slices.Concat(list, []int{-6, 99})[:len(list)])
	}
	r.Next = append(r.Next, []int{4, 2}, []int{7})[:len(d.Next)]
	return r
}

// masked is the automaton of a constraint's text with the partition of its sets.
func masked(t *testing.T, text string) dfa.DFA {
	t.Helper()
	c, _, e := cons.Read(text)
	if e != api.OK {
		t.Fatalf("%s is no constraint's text", text)
	}
	return spelt(t, text, classes.Refine(c.Sets()...))
}

// spelt is the automaton of a constraint's text with the partition p.
func spelt(t *testing.T, text string, p classes.Part) dfa.DFA {
	t.Helper()
	c, _, _ := cons.Read(text)
	d, e := dfa.Masks(c, p, nil)
	if e != api.OK {
		t.Fatalf("%s: %d", text, e)
	}
	return d
}

// late is the automaton of a machine of many spots that takes the texts with an a so many bytes ahead of the end.
func late(t *testing.T, many int) dfa.DFA {
	t.Helper()
	m := api.Machine{Spots: make([]api.Spot, many), First: []int{0, 1}, Follow: make([][]int, many), Last: make([]bool, many)}
	for k := range many {
		m.Spots[k].Set = octets.All()
		if k > 1 {
			m.Follow[k-1] = []int{k}
		}
	}
	m.Spots[1].Set = octets.Of('a')
	m.Follow[0] = []int{0, 1}
	m.Last[many-1] = true
	d, e := dfa.Build(m, classes.Refine(nfa.Sets(m)...), nil)
	if e != api.OK {
		t.Fatal(e)
	}
	return d
}

// wrong are automata that are not right, by what is wrong of them.
func wrong() map[string]dfa.DFA {
	most := map[string]dfa.DFA{
		"zero":                              {},
		"no states":                         {Part: letters()},
		"no states, but one that is final":  {Part: letters(), Final: []bool{true}},
		"one state, of which nothing tells": {Part: classes.Refine(), Next: [][]int{{0}}},
		"one state without a list":          {Part: classes.Refine(), Next: [][]int{nil}, Final: []bool{true}},
		"a partition that is zero":          {Next: [][]int{{}}, Final: []bool{true}},
	}
	for why, turn := range map[string]func(d *dfa.DFA){
		"Final is too short":         func(d *dfa.DFA) { d.Final = d.Final[:4] },
		"Final is too long":          func(d *dfa.DFA) { d.Final = append(d.Final, true) },
		"Next is too short":          func(d *dfa.DFA) { d.Next = d.Next[:4] },
		"Next is too long":           func(d *dfa.DFA) { d.Next = append(d.Next, []int{0, 0, 0, 0}) },
		"Next is none":               func(d *dfa.DFA) { d.Next = nil },
		"the last list is none":      func(d *dfa.DFA) { d.Next[4] = nil },
		"a list is too short":        func(d *dfa.DFA) { d.Next[2] = []int{1, 1, 3} },
		"a list is too long":         func(d *dfa.DFA) { d.Next[2] = []int{1, 1, 3, 4, 0} },
		"a number below 0":           func(d *dfa.DFA) { d.Next[0][0] = -1 },
		"a number that is too great": func(d *dfa.DFA) { d.Next[4][3] = 5 },
		"the least number":           func(d *dfa.DFA) { d.Next[3][2] = -1 << 63 },
		"the greatest number":        func(d *dfa.DFA) { d.Next[3][2] = 1<<63 - 1 },
		"a number greater by 2^32":   func(d *dfa.DFA) { d.Next[1][1] = 1 << 32 },
		"wrong where nothing comes":  func(d *dfa.DFA) { d.Next[0] = []int{0, 0, 0, 0}; d.Next[3][0] = 5 },
		"N is too small":             func(d *dfa.DFA) { d.N-- },
		"N is too great":             func(d *dfa.DFA) { d.N++ },
		"N is 0":                     func(d *dfa.DFA) { d.N = 0 },
		"N is below 0":               func(d *dfa.DFA) { d.N = -4 },
		"N is the greatest number":   func(d *dfa.DFA) { d.N = 1<<63 - 1 },
		"no byte of a class":         func(d *dfa.DFA) { d.Of['b'] = 0 },
		"a class is too great":       func(d *dfa.DFA) { d.Of[255] = 255 },
		"classes in a wrong order":   func(d *dfa.DFA) { d.Of['a'], d.Of['b'] = 2, 1 },
	} {
		d := example()
		turn(&d)
		most[why] = d
	}
	return most
}
