package seek_test

import (
	"fmt"
	"math"
	"slices"
	"testing"

	"shibboleth/api"
	"shibboleth/classes"
	"shibboleth/cons"
	"shibboleth/dfa"
	"shibboleth/nfa"
	"shibboleth/octets"
	"shibboleth/seek"
)

// letters is the partition of the letters a, b, c.
func letters() classes.Part {
	return classes.Refine(octets.Of('a'), octets.Of('b'), octets.Of('c'))
}

// onlyA is the partition of the letter a.
func onlyA() classes.Part {
	return classes.Refine(octets.Of('a'))
}

// mixed is a partition whose classes are not rows of bytes that stand side by side.
func mixed() classes.Part {
	return classes.Refine(octets.Of('b', 'z'), octets.Of('a', 0xff), octets.Range(0x80, 0xf0))
}

// single is the partition of which each class is one byte.
func single() classes.Part {
	var p classes.Part
	for c := range p.Of {
		p.Of[c] = uint8(c)
	}
	p.N = 256
	return p
}

// spot is a spot of these bytes.
func spot(letters string) api.Spot {
	return api.Spot{Set: octets.Of([]byte(letters)...)}
}

// example is chapter 10's machine: it takes ab, and no bytes.
func example() api.Machine {
	return api.Machine{
		Spots:  []api.Spot{spot("a"), spot("b"), spot("c")},
		First:  []int{0},
		Follow: [][]int{{1, 2}, nil, nil},
		Last:   []bool{false, true, false},
		Empty:  true,
	}
}

// full is a machine of many spots, of all bytes, each of which is first, last and behind each.
func full(many int) api.Machine {
	m := api.Machine{Spots: make([]api.Spot, many), First: make([]int, many), Follow: make([][]int, many), Last: make([]bool, many)}
	for k := range many {
		m.First[k] = k
	}
	for k := range many {
		m.Spots[k].Set = octets.All()
		m.Follow[k] = slices.Clone(m.First)
		m.Last[k] = true
	}
	return m
}

// row is a machine of one spot for each byte of the text, one behind the other, which takes just the text.
func row(text string) api.Machine {
	m := api.Machine{First: []int{0}, Follow: make([][]int, len(text)), Last: make([]bool, len(text))}
	for k := range len(text) {
		m.Spots = append(m.Spots, spot(text[k:k+1]))
		if k > 0 {
			m.Follow[k-1] = []int{k}
		}
	}
	m.Last[len(text)-1] = true
	return m
}

// either is a machine that takes what one of the machines does: their spots stand side by side.
func either(machines ...api.Machine) api.Machine {
	var all api.Machine
	for _, m := range machines {
		by := len(all.Spots)
		all.Spots = append(all.Spots, m.Spots...)
		all.Last = append(all.Last, m.Last...)
		all.First = append(all.First, moved(m.First, by)...)
		for _, list := range m.Follow {
			all.Follow = append(all.Follow, moved(list, by))
		}
		all.Empty = all.Empty || m.Empty
	}
	return all
}

// moved is the list with its numbers greater by so much.
func moved(list []int, by int) []int {
	var all []int
	for _, k := range list {
		all = append(all, k+by)
	}
	return all
}

// words are all words of these bytes, which rise, with n bytes at most: in shortlex.
func words(n int, letters ...byte) []string {
	all, now := []string{""}, []string{""}
	for range n {
		var longer []string
		for _, w := range now {
			for _, c := range letters {
				longer = append(longer, w+string([]byte{c}))
			}
		}
		all, now = append(all, longer...), longer
	}
	return all
}

// chance is a row of numbers without a plan.
type chance uint64

// below is the next one from 0 to n-1.
func (c *chance) below(n int) int {
	*c = *c*6364136223846793005 + 1442695040888963407
	x := uint64(*c)
	x ^= x >> 29
	return int(x >> 33 % uint64(n))
}

// automaton is a right one without a plan, of many states, of which one in so many is final.
func (c *chance) automaton(p classes.Part, many, once int) dfa.DFA {
	d := dfa.DFA{Part: p}
	for range many {
		list := make([]int, p.N)
		for class := range list {
			list[class] = c.below(many)
		}
		d.Next = append(d.Next, list)
		d.Final = append(d.Final, c.below(once) == 0)
	}
	return d
}

// far is a right automaton without a plan, of many states, whose steps lead on by two states at most, one at least of each state's, or anywhere back; one of the last ones is final.
func (c *chance) far(p classes.Part, many int) dfa.DFA {
	d := dfa.DFA{Part: p, Final: make([]bool, many)}
	for s := range many {
		list := make([]int, p.N)
		on := c.below(p.N)
		for class := range list {
			list[class] = c.below(s + 1)
			if class == on || c.below(4) == 0 {
				list[class] = min(many-1, s+1+c.below(2))
			}
		}
		d.Next = append(d.Next, list)
	}
	d.Final[many-1-c.below(3)] = true
	return d
}

// row is the numbers from 0 to n-1, of which those below keep stay where they are, and the others are in no order.
func (c *chance) row(n, keep int) []int {
	row := make([]int, n)
	for i := range row {
		row[i] = i
	}
	for i := n - 1; i > keep; i-- {
		j := keep + c.below(i-keep+1)
		row[i], row[j] = row[j], row[i]
	}
	return row
}

// shuffled is d with its states, but for the state 0, numbered anew.
func (c *chance) shuffled(d dfa.DFA) dfa.DFA {
	row := c.row(len(d.Next), 1)
	x := dfa.DFA{Part: d.Part, Next: make([][]int, len(row)), Final: make([]bool, len(row))}
	for s, list := range d.Next {
		x.Final[row[s]] = d.Final[s]
		for _, to := range list {
			x.Next[row[s]] = append(x.Next[row[s]], row[to])
		}
	}
	return x
}

// turned is m with its spots numbered anew.
func (c *chance) turned(m api.Machine) api.Machine {
	row := c.row(len(m.Spots), 0)
	renamed := func(list []int) []int {
		var all []int
		for _, k := range list {
			all = append(all, row[k])
		}
		slices.Sort(all)
		return all
	}
	x := api.Machine{Spots: make([]api.Spot, len(row)), First: renamed(m.First), Follow: make([][]int, len(row)), Last: make([]bool, len(row)), Empty: m.Empty}
	for k, to := range row {
		x.Spots[to], x.Follow[to], x.Last[to] = m.Spots[k], renamed(m.Follow[k]), m.Last[k]
	}
	return x
}

// numbers is a rising list of numbers of many spots; each stands in it once in so many times.
func (c *chance) numbers(many, once int) []int {
	var list []int
	for k := range many {
		if c.below(once) == 0 {
			list = append(list, k)
		}
	}
	return list
}

// set is of each of the bytes whether it is in, once in two times.
func (c *chance) set(letters string) api.Set {
	var s api.Set
	for i := range len(letters) {
		if c.below(2) == 0 {
			s = octets.Or(s, octets.Of(letters[i]))
		}
	}
	return s
}

// machine is a right machine without a plan, of many spots, of these bytes; behind each spot there are some two or three others, and just one is last.
func (c *chance) machine(many int, letters string) api.Machine {
	m := api.Machine{First: c.numbers(many, 1+many/2), Last: make([]bool, many)}
	for range many {
		m.Spots = append(m.Spots, api.Spot{Set: c.set(letters), Tag: uint8(c.below(3))})
		m.Follow = append(m.Follow, c.numbers(many, 1+many/3))
	}
	m.Last[c.below(many)] = true
	return m
}

// layers is a machine of rows of wide spots, so many behind one another; each spot of a row stands behind some of the row ahead, those of the last row alone are last.
func (c *chance) layers(wide, deep int, letters string) api.Machine {
	var m api.Machine
	for n := range deep {
		for k := range wide {
			m.Spots = append(m.Spots, api.Spot{Set: c.set(letters)})
			m.Last = append(m.Last, n == deep-1)
			if n == 0 {
				m.First = append(m.First, k)
			}
			var list []int
			if n < deep-1 {
				list = moved(c.numbers(wide, 2), (n+1)*wide)
			}
			m.Follow = append(m.Follow, list)
		}
	}
	return m
}

// leads is of the states or spots at which texts of one length may end, by their numbers, the least one of these texts.
type leads map[int]string

// put notes that the text leads to k.
func (l leads) put(k int, text string) {
	if old, known := l[k]; !known || text < old {
		l[k] = text
	}
}

// least is the least text that leads to one of which final says that it is.
func (l leads) least(final []bool) (string, bool) {
	var all []string
	for k, text := range l {
		if final[k] {
			all = append(all, text)
		}
	}
	if all == nil {
		return "", false
	}
	return slices.Min(all), true
}

// word is the model of Word: of each length that may matter, and one more, of each state the least text of just that length that leads to it, over all bytes.
func word(d dfa.DFA) (string, bool) {
	now := leads{0: ""}
	for range len(d.Next) + 1 {
		if w, ok := now.least(d.Final); ok {
			return w, true
		}
		next := leads{}
		for s, text := range now {
			for c := range 256 {
				next.put(d.Next[s][d.Of[c]], text+string([]byte{byte(c)}))
			}
		}
		now = next
	}
	return "", false
}

// path is the model of Path, made as word is.
func path(m api.Machine) (string, bool) {
	if m.Empty {
		return "", true
	}
	behind := func(next leads, list []int, text string) {
		for _, k := range list {
			for c := range 256 {
				if octets.Has(m.Spots[k].Set, byte(c)) {
					next.put(k, text+string([]byte{byte(c)}))
				}
			}
		}
	}
	now := leads{}
	behind(now, m.First, "")
	for range len(m.Spots) + 1 {
		if w, ok := now.least(m.Last); ok {
			return w, true
		}
		next := leads{}
		for k, text := range now {
			behind(next, m.Follow[k], text)
		}
		now = next
	}
	return "", false
}

// begun tells whether a run may read w into one of the spots, and on, and end well.
func begun(m api.Machine, spots []int, w string) bool {
	for _, k := range spots {
		if !octets.Has(m.Spots[k].Set, w[0]) {
			continue
		}
		if len(w) == 1 && m.Last[k] || len(w) > 1 && begun(m, m.Follow[k], w[1:]) {
			return true
		}
	}
	return false
}

// takes tells whether the machine does: chapter 10's words, run by run.
func takes(m api.Machine, w string) bool {
	if w == "" {
		return m.Empty
	}
	return begun(m, m.First, w)
}

// first is the first one of the words that is taken.
func first(words []string, taken func(w string) bool) (string, bool) {
	i := slices.IndexFunc(words, taken)
	if i < 0 {
		return "", false
	}
	return words[i], true
}

// spread is d with each byte a class of its own.
func spread(d dfa.DFA) dfa.DFA {
	x := dfa.DFA{Part: single(), Final: d.Final}
	for _, list := range d.Next {
		next := make([]int, 256)
		for c := range next {
			next[c] = list[d.Of[c]]
		}
		x.Next = append(x.Next, next)
	}
	return x
}

// ahead is the automaton of all texts that are lesser than w. For each number of bytes it has three states: so far they are those of w, lesser ones, or greater ones; behind more bytes than w has it is in the last one of all.
func ahead(w string) dfa.DFA {
	many := len(w) + 1
	d := dfa.DFA{Part: single(), Next: make([][]int, 3*many+1), Final: make([]bool, 3*many+1)}
	dead := 3 * many
	for s := range d.Next {
		d.Next[s] = slices.Repeat([]int{dead}, 256)
	}
	for i := range many {
		for how := range 3 {
			s := how*many + i
			d.Final[s] = i < len(w) || how == 1
			for c := 0; c < 256 && i < len(w); c++ {
				to := how
				if how == 0 && byte(c) < w[i] {
					to = 1
				} else if how == 0 && byte(c) > w[i] {
					to = 2
				}
				d.Next[s][c] = to*many + i + 1
			}
		}
	}
	return d
}

// upTo is the automaton of all texts that are lesser than w, and of w.
func upTo(w string) dfa.DFA {
	d := ahead(w)
	d.Final[len(w)] = true
	return d
}

// holdsWord holds what is told of d against the model; that it is taken, no longer than may be, and that Empty tells the same.
func holdsWord(t *testing.T, name string, d dfa.DFA) string {
	t.Helper()
	w, ok := seek.Word(d)
	want, some := word(d)
	if w != want || ok != some || seek.Empty(d) == some {
		t.Fatalf("%s: %v, %v: %q, %v, not %q, %v; Empty %v", name, d.Next, d.Final, w, ok, want, some, seek.Empty(d))
	}
	if ok && (!dfa.Run(d, w) || len(w) >= len(d.Next)) {
		t.Fatalf("%s: %v, %v: %q", name, d.Next, d.Final, w)
	}
	return w
}

// holdsPath holds what is told of m against the model; that it is taken, and no longer than may be.
func holdsPath(t *testing.T, name string, m api.Machine) string {
	t.Helper()
	w, ok := seek.Path(m)
	want, some := path(m)
	if w != want || ok != some {
		t.Fatalf("%s: %v: %q, %v, not %q, %v", name, m, w, ok, want, some)
	}
	if ok && (!nfa.Run(m, w) || len(w) > len(m.Spots)) {
		t.Fatalf("%s: %v: %q", name, m, w)
	}
	return w
}

// built is the automaton of m with the partition of its sets.
func built(t *testing.T, m api.Machine) dfa.DFA {
	t.Helper()
	d, e := dfa.Build(m, classes.Refine(nfa.Sets(m)...), nil)
	if e != api.OK {
		t.Fatalf("Build of %v: %d", m, e)
	}
	return d
}

// masked is the automaton of a constraint's text with the partition of its sets.
func masked(t *testing.T, text string) dfa.DFA {
	t.Helper()
	c, _, e := cons.Read(text)
	if e != api.OK {
		t.Fatalf("%s is no constraint's text", text)
	}
	d, e := dfa.Masks(c, classes.Refine(c.Sets()...), nil)
	if e != api.OK {
		t.Fatalf("%s: %d", text, e)
	}
	return d
}

// all is d with its lists' spare room, as a text.
func all(d dfa.DFA) string {
	text := fmt.Sprint(d.Part, d.Next[:cap(d.Next)], d.Final[:cap(d.Final)])
	for _, list := range d.Next[:cap(d.Next)] {
		text += fmt.Sprint(list[:cap(list)])
	}
	return text
}

// roomy is d with spare room behind each list, where there is something.
func roomy(d dfa.DFA) dfa.DFA {
	r := dfa.DFA{Part: d.Part, Final: slices.Concat(d.Final, []bool{true, false, true})[:len(d.Final)]}
	for _, list := range d.Next {
		r.Next = append(r.Next, slices.Concat(list, []int{-6, 99})[:len(list)])
	}
	r.Next = append(r.Next, []int{4, 2}, []int{7})[:len(d.Next)]
	return r
}

// allOf is m with its lists' spare room, as a text.
func allOf(m api.Machine) string {
	text := fmt.Sprint(m.Spots[:cap(m.Spots)], m.First[:cap(m.First)], m.Follow[:cap(m.Follow)], m.Last[:cap(m.Last)], m.Empty)
	for _, list := range m.Follow[:cap(m.Follow)] {
		text += fmt.Sprint(list[:cap(list)])
	}
	return text
}

// roomyMachine is m with spare room behind each list, where there is something.
func roomyMachine(m api.Machine) api.Machine {
	r := m
	r.Spots = slices.Concat(m.Spots, []api.Spot{spot("q"), spot("r")})[:len(m.Spots)]
	r.First = slices.Concat(m.First, []int{-5, 88})[:len(m.First)]
	r.Last = slices.Concat(m.Last, []bool{true, false, true})[:len(m.Last)]
	r.Follow = nil
	for _, list := range m.Follow {
		r.Follow = append(r.Follow, slices.Concat(list, []int{-6, 99})[:len(list)])
	}
	r.Follow = append(r.Follow, []int{4, 2}, []int{7})[:len(m.Follow)]
	return r
}

// wrong are automata that are not right, by what is wrong of them.
func wrong(t *testing.T) map[string]dfa.DFA {
	most := map[string]dfa.DFA{
		"zero":                              {},
		"no states":                         {Part: letters()},
		"no states, but one that is final":  {Part: letters(), Final: []bool{true}},
		"one state, of which nothing tells": {Part: classes.Refine(), Next: [][]int{{0}}},
		"one state without a list":          {Part: classes.Refine(), Next: [][]int{nil}, Final: []bool{true}},
		"a partition that is zero":          {Next: [][]int{{}}, Final: []bool{true}},
	}
	for why, turn := range map[string]func(d *dfa.DFA){
		"Final is too short":          func(d *dfa.DFA) { d.Final = d.Final[:4] },
		"Final is too long":           func(d *dfa.DFA) { d.Final = append(d.Final, true) },
		"Final is none":               func(d *dfa.DFA) { d.Final = nil },
		"Next is too short":           func(d *dfa.DFA) { d.Next = d.Next[:4] },
		"Next is too long":            func(d *dfa.DFA) { d.Next = append(d.Next, []int{0, 0, 0, 0}) },
		"Next is none":                func(d *dfa.DFA) { d.Next = nil },
		"the first list is none":      func(d *dfa.DFA) { d.Next[0] = nil },
		"the last list is none":       func(d *dfa.DFA) { d.Next[4] = []int{} },
		"a list is too short":         func(d *dfa.DFA) { d.Next[2] = []int{1, 1, 3} },
		"a list is too long":          func(d *dfa.DFA) { d.Next[2] = []int{1, 1, 3, 4, 0} },
		"a number below 0":            func(d *dfa.DFA) { d.Next[0][0] = -1 },
		"a number that is too great":  func(d *dfa.DFA) { d.Next[4][3] = 5 },
		"the least number":            func(d *dfa.DFA) { d.Next[3][2] = math.MinInt },
		"the greatest number":         func(d *dfa.DFA) { d.Next[3][2] = math.MaxInt },
		"a number greater by 2^32":    func(d *dfa.DFA) { d.Next[1][1] = 1 << 32 },
		"N is too small":              func(d *dfa.DFA) { d.N-- },
		"N is too great":              func(d *dfa.DFA) { d.N++ },
		"N is 0":                      func(d *dfa.DFA) { d.N = 0 },
		"N is below 0":                func(d *dfa.DFA) { d.N = -4 },
		"N is the greatest number":    func(d *dfa.DFA) { d.N = math.MaxInt },
		"no byte of a class":          func(d *dfa.DFA) { d.Of['b'] = 0 },
		"a class is too great":        func(d *dfa.DFA) { d.Of[255] = 255 },
		"classes in a wrong order":    func(d *dfa.DFA) { d.Of['a'], d.Of['b'] = 2, 1 },
		"the first is not of class 0": func(d *dfa.DFA) { d.Of[0] = 1 },
	} {
		for _, empty := range []bool{false, true} {
			m := example()
			m.Empty = empty
			d, e := dfa.Build(m, letters(), nil)
			if e != api.OK {
				t.Fatal(e)
			}
			turn(&d)
			most[fmt.Sprint(why, ", Empty ", empty)] = d
		}
	}
	return most
}

// wrongMachines are machines that are not right, by what is wrong of them; each would take something, if that didn't matter.
func wrongMachines() map[string]api.Machine {
	most := map[string]api.Machine{
		"251 spots":                         full(251),
		"257 spots":                         full(257),
		"many spots":                        row(fmt.Sprintf("%070000d", 1)),
		"no spots, but one that is first":   {First: []int{0}},
		"no spots, but one that is last":    {Last: []bool{true}},
		"no spots, but what follows":        {Follow: [][]int{{0}}},
		"no spots, but all else":            {First: []int{0}, Follow: [][]int{{0}}, Last: []bool{true}},
		"one spot, without Follow and Last": {Spots: []api.Spot{spot("a")}, First: []int{0}},
		"one spot, without Follow":          {Spots: []api.Spot{spot("a")}, First: []int{0}, Last: []bool{true}},
		"one spot, without Last":            {Spots: []api.Spot{spot("a")}, First: []int{0}, Follow: [][]int{nil}},
	}
	for why, turn := range map[string]func(m *api.Machine){
		"Follow is too short":           func(m *api.Machine) { m.Follow = m.Follow[:2] },
		"Follow is too long":            func(m *api.Machine) { m.Follow = append(m.Follow, nil) },
		"Last is too short":             func(m *api.Machine) { m.Last = m.Last[:2] },
		"Last is too long":              func(m *api.Machine) { m.Last = append(m.Last, false) },
		"a tag of 3":                    func(m *api.Machine) { m.Spots[2].Tag = 3 },
		"a tag of 255":                  func(m *api.Machine) { m.Spots[0].Tag = 255 },
		"First falls":                   func(m *api.Machine) { m.First = []int{1, 0} },
		"First has one twice":           func(m *api.Machine) { m.First = []int{0, 0} },
		"First has too much":            func(m *api.Machine) { m.First = []int{0, 3} },
		"First has a number below 0":    func(m *api.Machine) { m.First = []int{-1, 0} },
		"First has the greatest number": func(m *api.Machine) { m.First = []int{0, math.MaxInt} },
		"Follow falls":                  func(m *api.Machine) { m.Follow[0] = []int{2, 1} },
		"Follow has one twice":          func(m *api.Machine) { m.Follow[0] = []int{1, 1} },
		"Follow has too much":           func(m *api.Machine) { m.Follow[2] = []int{3} },
		"Follow has a number below 0":   func(m *api.Machine) { m.Follow[1] = []int{-1} },
		"Follow has the least number":   func(m *api.Machine) { m.Follow[1] = []int{math.MinInt} },
		"Follow has 256 more":           func(m *api.Machine) { m.Follow[0] = []int{1, 257} },
	} {
		m := example()
		turn(&m)
		most[why] = m
	}
	return most
}
