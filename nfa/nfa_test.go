package nfa_test

import (
	"fmt"
	"math"
	"slices"
	"strings"
	"testing"

	"shibboleth/api"
	"shibboleth/classes"
	"shibboleth/nfa"
	"shibboleth/octets"
)

// spot is a spot of these bytes, without a tag.
func spot(letters string) api.Spot {
	return api.Spot{Set: octets.Of([]byte(letters)...)}
}

// tagged is a spot of these bytes.
func tagged(letters string, tag uint8) api.Spot {
	s := spot(letters)
	s.Tag = tag
	return s
}

// example is the chapter's machine: it takes ab, and no bytes.
func example() api.Machine {
	return api.Machine{
		Spots:  []api.Spot{spot("a"), spot("b"), spot("c")},
		First:  []int{0},
		Follow: [][]int{{1, 2}, nil, nil},
		Last:   []bool{false, true, false},
		Empty:  true,
	}
}

// maze has spots of all kinds: such that can't be reached, such that lead nowhere, and such that have no byte.
func maze() api.Machine {
	return api.Machine{
		Spots: []api.Spot{
			spot(""), tagged("ab", 1), spot("z"), tagged("c", 2), spot("a"), spot(""), tagged("b", 1), spot("d"), spot("d"), tagged("", 2),
		},
		First:  []int{0, 1, 4, 7, 9},
		Follow: [][]int{{2, 3}, {1, 3, 4, 5}, {1, 2, 3}, {6}, {4}, {6, 8}, {0, 1, 6}, nil, {8}, {6, 9}},
		Last:   []bool{true, false, true, false, false, true, true, true, true, true},
	}
}

// full is a machine of many spots, of all bytes, each of which is first, last and behind each.
func full(many int) api.Machine {
	m := api.Machine{Spots: make([]api.Spot, many), First: make([]int, many), Follow: make([][]int, many), Last: make([]bool, many)}
	for k := range many {
		m.First[k] = k
	}
	for k := range many {
		m.Spots[k].Set = octets.All()
		m.Follow[k] = slices.Clone(m.First)
		m.Last[k] = true
	}
	return m
}

// chain is a machine of many spots, one behind the other, which takes just as many bytes.
func chain(many int) api.Machine {
	m := api.Machine{Spots: make([]api.Spot, many), First: []int{0}, Follow: make([][]int, many), Last: make([]bool, many)}
	for k := range many {
		m.Spots[k].Set = octets.All()
		if k > 0 {
			m.Follow[k-1] = []int{k}
		}
	}
	m.Last[many-1] = true
	return m
}

// words are all words of these bytes with n bytes at most.
func words(n int, letters ...byte) []string {
	all, now := []string{""}, []string{""}
	for range n {
		var longer []string
		for _, w := range now {
			for _, c := range letters {
				longer = append(longer, w+string([]byte{c}))
			}
		}
		all, now = append(all, longer...), longer
	}
	return all
}

// chance is a row of numbers without a plan.
type chance uint64

// below is the next one from 0 to n-1.
func (c *chance) below(n int) int {
	*c = *c*6364136223846793005 + 1442695040888963407
	x := uint64(*c)
	x ^= x >> 29
	return int(x >> 33 % uint64(n))
}

// numbers is a rising list of numbers of many spots; each stands in it once in so many times.
func (c *chance) numbers(many, once int) []int {
	var list []int
	for k := range many {
		if c.below(once) == 0 {
			list = append(list, k)
		}
	}
	return list
}

// machine is a right machine without a plan, of many spots, of letters of a, b and c.
func (c *chance) machine(many int) api.Machine {
	m := api.Machine{First: c.numbers(many, 2+many/3), Empty: c.below(2) == 0}
	for range many {
		s := tagged("", uint8(c.below(3)))
		for _, b := range []byte("abc") {
			if c.below(2) == 0 {
				s.Set = octets.Or(s.Set, octets.Of(b))
			}
		}
		m.Spots = append(m.Spots, s)
		m.Follow = append(m.Follow, c.numbers(many, 2+many/3))
		m.Last = append(m.Last, c.below(4) == 0)
	}
	return m
}

// ends tells whether a run that is in the spot k may read w and end well.
func ends(m api.Machine, k int, w string) bool {
	if w == "" {
		return m.Last[k]
	}
	return begins(m, m.Follow[k], w)
}

// begins tells whether a run may read w into one of the spots, and on, and end well.
func begins(m api.Machine, spots []int, w string) bool {
	for _, k := range spots {
		if octets.Has(m.Spots[k].Set, w[0]) && ends(m, k, w[1:]) {
			return true
		}
	}
	return false
}

// takes is the model of Run, of a machine that is right.
func takes(m api.Machine, w string) bool {
	if w == "" {
		return m.Empty
	}
	return begins(m, m.First, w)
}

// uses is the model of a machine's useful spots: those that stand between a first and a last one.
func uses(m api.Machine) []bool {
	many := len(m.Spots)
	has := make([]bool, many)
	leads := make([][]bool, many)
	for k := range many {
		has[k] = m.Spots[k].Set != api.Set{}
	}
	for k, list := range m.Follow {
		leads[k] = make([]bool, many)
		leads[k][k] = has[k]
		for _, j := range list {
			leads[k][j] = leads[k][j] || has[k] && has[j]
		}
	}
	for over := range many {
		for from := range many {
			for to := range many {
				leads[from][to] = leads[from][to] || leads[from][over] && leads[over][to]
			}
		}
	}
	useful := make([]bool, many)
	for k := range many {
		begun := slices.ContainsFunc(m.First, func(from int) bool { return leads[from][k] })
		ending := false
		for to, is := range m.Last {
			ending = ending || is && leads[k][to]
		}
		useful[k] = begun && ending
	}
	return useful
}

// trimmed is the model of Trim: it takes the spots away one by one, the last one ahead.
func trimmed(m api.Machine) api.Machine {
	t := clone(m)
	useful := uses(m)
	for k := len(useful) - 1; k >= 0; k-- {
		if useful[k] {
			continue
		}
		t.Spots = slices.Delete(t.Spots, k, k+1)
		t.Follow = slices.Delete(t.Follow, k, k+1)
		t.Last = slices.Delete(t.Last, k, k+1)
		t.First = without(t.First, k)
		for i := range t.Follow {
			t.Follow[i] = without(t.Follow[i], k)
		}
	}
	return t
}

// without is the list without the number k; greater ones are less by one.
func without(list []int, k int) []int {
	var kept []int
	for _, j := range list {
		switch {
		case j < k:
			kept = append(kept, j)
		case j > k:
			kept = append(kept, j-1)
		}
	}
	return kept
}

// clone is m in memory of its own, made without what is tried here.
func clone(m api.Machine) api.Machine {
	c := m
	c.Spots = append([]api.Spot(nil), m.Spots...)
	c.First = append([]int(nil), m.First...)
	c.Last = append([]bool(nil), m.Last...)
	c.Follow = nil
	for _, list := range m.Follow {
		c.Follow = append(c.Follow, append([]int(nil), list...))
	}
	return c
}

// told is m as a text: lists without anything in them are alike in it, and nothing else is.
func told(m api.Machine) string {
	return fmt.Sprint(m)
}

// all is m with its lists' spare room, as a text.
func all(m api.Machine) string {
	text := fmt.Sprint(m.Spots[:cap(m.Spots)], m.First[:cap(m.First)], m.Follow[:cap(m.Follow)], m.Last[:cap(m.Last)], m.Empty)
	for _, list := range m.Follow[:cap(m.Follow)] {
		text += fmt.Sprint(list[:cap(list)])
	}
	return text
}

// roomy is m with spare room behind each list, where there is something.
func roomy(m api.Machine) api.Machine {
	r := m
	r.Spots = slices.Concat(m.Spots, []api.Spot{tagged("q", 1), tagged("r", 77)})[:len(m.Spots)]
	r.First = slices.Concat(m.First, []int{-5, 88})[:len(m.First)]
	r.Last = slices.Concat(m.Last, []bool{true, false, true})[:len(m.Last)]
	r.Follow = nil
	for _, list := range m.Follow {
		r.Follow = append(r.Follow, slices.Concat(list, []int{-6, 99})[:len(list)])
	}
	r.Follow = append(r.Follow, []int{4, 2}, []int{7})[:len(m.Follow)]
	return r
}

// scribble is of each list of m what fills it, its spare room too, with something else.
func scribble(m api.Machine) []func() {
	fills := []func(){
		func() { fill(m.Spots, tagged("xyz", 9)) },
		func() { fill(m.First, 1234) },
		func() { fill(m.Follow, []int{4321}) },
		func() {
			for i, is := range m.Last[:cap(m.Last)] {
				m.Last[:cap(m.Last)][i] = !is
			}
		},
	}
	for _, list := range m.Follow {
		fills = append(fills, func() { fill(list, 5678) })
	}
	return fills
}

// fill fills the list, and its spare room.
func fill[T any](list []T, with T) {
	list = list[:cap(list)]
	for i := range list {
		list[i] = with
	}
}

// own holds that no list of what make answers shares memory with another one, nor with source.
func own(t *testing.T, source api.Machine, make func() api.Machine) {
	t.Helper()
	was := all(source)
	for i := range scribble(make()) {
		m := make()
		want := clone(m)
		scribble(m)[i]()
		if all(source) != was {
			t.Fatalf("list %d: it shares memory with what was handed in", i)
		}
		got := m
		switch i {
		case 0:
			got.Spots, want.Spots = nil, nil
		case 1:
			got.First, want.First = nil, nil
		case 2:
			got.Follow, want.Follow = nil, nil
		case 3:
			got.Last, want.Last = nil, nil
		default:
			got = clone(got)
			got.Follow[i-4], want.Follow[i-4] = nil, nil
		}
		if told(got) != told(want) {
			t.Fatalf("list %d: it shares memory with another one: %v, not %v", i, got, want)
		}
	}
}

// P10.1, P10.2: the chapter's examples.
func TestExamples(t *testing.T) {
	m := example()
	if !nfa.Right(m) || !nfa.Run(m, "") || !nfa.Run(m, "ab") || nfa.Run(m, "ac") || nfa.Run(m, "a") {
		t.Errorf("Run")
	}
	x, e := nfa.Trim(m)
	want := api.Machine{Spots: []api.Spot{spot("a"), spot("b")}, First: []int{0}, Follow: [][]int{{1}, nil}, Last: []bool{false, true}, Empty: true}
	if e != api.OK || told(x) != told(want) {
		t.Errorf("Trim: %v, %d", x, e)
	}
	for i, turn := range []func(){
		func() { m.First = []int{1, 0} },
		func() { m.Last = m.Last[:2] },
		func() { m.Spots[1].Tag = 3 },
	} {
		m = example()
		turn()
		if nfa.Right(m) {
			t.Errorf("%d: it is right", i)
		}
	}
}

// P10.1: right ones.
func TestRight(t *testing.T) {
	for i, m := range []api.Machine{
		{},
		{Empty: true},
		{Spots: []api.Spot{}, First: []int{}, Follow: [][]int{}, Last: []bool{}},
		{Spots: make([]api.Spot, 1), Follow: [][]int{nil}, Last: []bool{false}},
		{Spots: make([]api.Spot, 1), Follow: [][]int{{0}}, Last: []bool{true}, First: []int{0}},
		{Spots: make([]api.Spot, 2), Follow: [][]int{{0, 1}, {1}}, Last: []bool{true, false}, First: []int{0, 1}},
		{Spots: make([]api.Spot, 3), Follow: [][]int{{0, 2}, {1}, {0, 1, 2}}, Last: make([]bool, 3), First: []int{2}},
		{Spots: []api.Spot{tagged("a", 0), tagged("a", 1), tagged("a", 2)}, Follow: make([][]int, 3), Last: make([]bool, 3)},
		example(), maze(), full(249), full(250), chain(250), roomy(maze()),
	} {
		if !nfa.Right(m) {
			t.Errorf("%d: it is not right", i)
		}
	}
}

// wrong are machines that are not right, by what is wrong of them.
func wrong() map[string]api.Machine {
	all := map[string]api.Machine{
		"251 spots":                                        full(251),
		"251 spots, one behind another":                    chain(251),
		"256 spots":                                        full(256),
		"257 spots":                                        full(257),
		"many spots":                                       chain(70000),
		"251 spots, nothing more":                          {Spots: make([]api.Spot, 251), Follow: make([][]int, 251), Last: make([]bool, 251)},
		"no spots, but one that is first":                  {First: []int{0}},
		"no spots, but one that is last":                   {Last: []bool{false}},
		"no spots, but a list of what follows":             {Follow: [][]int{nil}},
		"no spots, but one that is last, and what follows": {Follow: [][]int{{0}}, Last: []bool{true}, First: []int{0}},
		"one spot, without Follow and Last":                {Spots: make([]api.Spot, 1)},
		"one spot, without Follow":                         {Spots: make([]api.Spot, 1), Last: []bool{true}},
		"one spot, without Last":                           {Spots: make([]api.Spot, 1), Follow: [][]int{nil}},
	}
	for why, turn := range map[string]func(m *api.Machine){
		"Follow is too short":             func(m *api.Machine) { m.Follow = m.Follow[:len(m.Follow)-1] },
		"Follow is too long":              func(m *api.Machine) { m.Follow = append(m.Follow, nil) },
		"Last is too short":               func(m *api.Machine) { m.Last = m.Last[:len(m.Last)-1] },
		"Last is too long":                func(m *api.Machine) { m.Last = append(m.Last, false) },
		"Follow and Last are too short":   func(m *api.Machine) { m.Last, m.Follow = m.Last[1:], m.Follow[1:] },
		"Follow and Last are too long":    func(m *api.Machine) { m.Last, m.Follow = append(m.Last, true), append(m.Follow, nil) },
		"a spot without the lists":        func(m *api.Machine) { m.Spots = append(m.Spots, spot("a")) },
		"Spots are too short":             func(m *api.Machine) { m.Spots = m.Spots[:1] },
		"a first tag":                     func(m *api.Machine) { m.Spots[0].Tag = 3 },
		"a last tag":                      func(m *api.Machine) { m.Spots[len(m.Spots)-1].Tag = 255 },
		"a tag between":                   func(m *api.Machine) { m.Spots[1].Tag = 4 },
		"a tag of a useless spot":         func(m *api.Machine) { m.Spots[2] = tagged("", 128) },
		"First falls":                     func(m *api.Machine) { m.First = []int{2, 1} },
		"First rises and falls":           func(m *api.Machine) { m.First = []int{0, 2, 1} },
		"First has 0 twice":               func(m *api.Machine) { m.First = []int{0, 0} },
		"First has the last twice":        func(m *api.Machine) { m.First = []int{0, len(m.Spots) - 1, len(m.Spots) - 1} },
		"First has too much":              func(m *api.Machine) { m.First = []int{0, len(m.Spots)} },
		"First has a number below 0":      func(m *api.Machine) { m.First = []int{-1, 0} },
		"First has the least number":      func(m *api.Machine) { m.First = []int{math.MinInt} },
		"First has the greatest number":   func(m *api.Machine) { m.First = []int{0, math.MaxInt} },
		"First has a number of 64 more":   func(m *api.Machine) { m.First = []int{64} },
		"First has a number of 256 more":  func(m *api.Machine) { m.First = []int{256} },
		"First has a number of 2^32":      func(m *api.Machine) { m.First = []int{1 << 32} },
		"First is long":                   func(m *api.Machine) { m.First = make([]int, 1<<20) },
		"Follow falls":                    func(m *api.Machine) { m.Follow[0] = []int{2, 1} },
		"the last Follow falls":           func(m *api.Machine) { m.Follow[len(m.Follow)-1] = []int{1, 0} },
		"Follow rises and falls":          func(m *api.Machine) { m.Follow[1] = []int{0, 2, 1} },
		"Follow has one twice":            func(m *api.Machine) { m.Follow[0] = []int{1, 1} },
		"Follow has one twice at last":    func(m *api.Machine) { m.Follow[2] = []int{0, 1, 1} },
		"Follow has too much":             func(m *api.Machine) { m.Follow[1] = []int{1, len(m.Spots)} },
		"Follow has a number below 0":     func(m *api.Machine) { m.Follow[0] = []int{-1} },
		"Follow has the least number":     func(m *api.Machine) { m.Follow[2] = []int{math.MinInt, 0} },
		"Follow has the greatest number":  func(m *api.Machine) { m.Follow[2] = []int{0, math.MaxInt} },
		"Follow has a number of 256 more": func(m *api.Machine) { m.Follow[0] = []int{257} },
	} {
		for name, m := range map[string]api.Machine{"example": example(), "maze": maze(), "full": full(5)} {
			turn(&m)
			all[name+": "+why] = m
		}
	}
	return all
}

// P10.1, P10.2: of one that is not right.
func TestWrong(t *testing.T) {
	for why, m := range wrong() {
		if nfa.Right(m) {
			t.Errorf("%s: it is right", why)
		}
		for _, empty := range []bool{false, true} {
			m.Empty = empty
			for _, w := range []string{"", "a", "b", "ab", "aaaa", strings.Repeat("a", 251)} {
				if nfa.Run(m, w) {
					t.Errorf("%s: it takes %q", why, w)
				}
			}
			x, e := nfa.Trim(m)
			if e != api.ErrArg || told(x) != told(api.Machine{}) {
				t.Errorf("%s: Trim: %v, %d", why, x, e)
			}
		}
	}
}

// P10.1: texts that are taken, written down.
func TestRun(t *testing.T) {
	loop := api.Machine{Spots: []api.Spot{spot("a")}, First: []int{0}, Follow: [][]int{{0}}, Last: []bool{true}}
	once := api.Machine{Spots: []api.Spot{spot("\x00\x7f\x80\xff")}, First: []int{0}, Follow: [][]int{nil}, Last: []bool{true}}
	none := api.Machine{Spots: []api.Spot{spot("")}, First: []int{0}, Follow: [][]int{{0}}, Last: []bool{true}, Empty: true}
	noFirst := api.Machine{Spots: []api.Spot{spot("a")}, Follow: [][]int{{0}}, Last: []bool{true}}
	noLast := api.Machine{Spots: []api.Spot{spot("a")}, First: []int{0}, Follow: [][]int{{0}}, Last: []bool{false}, Empty: true}
	// Behind an a, of two runs the one may go on with a b, the other one with a c.
	fork := api.Machine{Spots: []api.Spot{spot("a"), spot("a"), spot("b"), spot("c")}, First: []int{0, 1}, Follow: [][]int{{2}, {3}, nil, nil}, Last: []bool{false, false, true, true}}
	for _, x := range []struct {
		name string
		m    api.Machine
		yes  []string
		no   []string
	}{
		{"loop", loop, []string{"a", "aa", "aaaaaaa"}, []string{"", "b", "ab", "ba", "aba", "A", "\x00"}},
		{"once", once, []string{"\x00", "\x7f", "\x80", "\xff"}, []string{"", "\x01", "\x81", "\xfe", "\x00\x00", "\x80\xff", "\u00ff", "\u0080"}},
		{"none", none, []string{""}, []string{"a", "\x00", "\xff", "aa"}},
		{"noFirst", noFirst, nil, []string{"", "a", "aa"}},
		{"noLast", noLast, []string{""}, []string{"a", "aa"}},
		{"fork", fork, []string{"ab", "ac"}, []string{"", "a", "b", "c", "abc", "acb", "aab", "aac", "ad", "abb"}},
		{"zero", api.Machine{}, nil, []string{"", "a", "\x00"}},
		{"only Empty", api.Machine{Empty: true}, []string{""}, []string{"a", "\x00"}},
		{"example", example(), []string{"", "ab"}, []string{"a", "b", "c", "ac", "aba", "abb", "abab", "cb"}},
		{"maze", maze(), []string{"d", "acb", "bcb", "acbb", "abacbaacb", "bbbbcbbb"}, []string{"", "a", "b", "c", "z", "dd", "cb", "ac", "aab", "acbz", "da"}},
		{"full", full(2), []string{"a", "\x00\xff", "\u00e9", "xyz\n"}, []string{""}},
		{"chain", chain(3), []string{"abc", "\u20ac", "\x00\x00\x00"}, []string{"", "a", "ab", "abcd", "\u00e9"}},
	} {
		for _, w := range x.yes {
			if !nfa.Run(x.m, w) {
				t.Errorf("%s does not take %q", x.name, w)
			}
		}
		for _, w := range x.no {
			if nfa.Run(x.m, w) {
				t.Errorf("%s takes %q", x.name, w)
			}
		}
	}
}

// P10.1: no bytes are taken just if Empty says so, whatever else there is.
func TestRunNoBytes(t *testing.T) {
	plan := chance(3)
	for range 200 {
		m := plan.machine(plan.below(6))
		if nfa.Run(m, "") != m.Empty {
			t.Fatalf("%v", m)
		}
		was := words(3, 'a', 'b')[1:]
		turned := m
		turned.Empty = !m.Empty
		for _, w := range was {
			if nfa.Run(m, w) != nfa.Run(turned, w) {
				t.Fatalf("%v: Empty matters to %q", m, w)
			}
		}
	}
}

// P10.1: each spot of 250 is told apart from the others, as a first one, a last one, and one that follows.
func TestRunManySpots(t *testing.T) {
	const many = api.MaxSpots
	for k := range many {
		m := full(many)
		for i := range many {
			m.Spots[i].Set = octets.Of(byte(i))
			m.Last[i] = i == k
		}
		m.First = []int{(k + 100) % many}
		for i := range many {
			m.Follow[i] = []int{(i + 75) % many}
		}
		// 100 and 2 times 75 are as many as there are spots.
		text := string([]byte{byte((k + 100) % many), byte((k + 175) % many), byte(k)})
		if !nfa.Run(m, text) || nfa.Run(m, text[:2]) || nfa.Run(m, text[1:]) || nfa.Run(m, text+text) {
			t.Fatalf("the spot %d", k)
		}
		x, e := nfa.Trim(m)
		if e != api.OK || !nfa.Run(x, text) || nfa.Run(x, text[:2]) {
			t.Fatalf("the spot %d: Trim: %v, %d", k, x, e)
		}
		// The model takes its time.
		if k%40 == 7 && told(x) != told(trimmed(m)) {
			t.Fatalf("the spot %d: Trim: %v", k, x)
		}
	}
	for _, many := range []int{1, 2, 63, 64, 65, 127, 128, 129, 191, 192, 193, 249, 250} {
		m := chain(many)
		text := strings.Repeat("\xc3", many)
		if !nfa.Run(m, text) || nfa.Run(m, text[1:]) || nfa.Run(m, text+"a") {
			t.Errorf("%d spots, one behind the other", many)
		}
	}
}

// P10.1: Run against the model, of machines without a plan.
func TestRunModel(t *testing.T) {
	plan := chance(1)
	tried := words(6, 'a', 'b', 'c')
	taken := 0
	for range 400 {
		m := plan.machine(1 + plan.below(7))
		for _, w := range tried {
			want := takes(m, w)
			if got := nfa.Run(m, w); got != want {
				t.Fatalf("%v: Run(%q): %v", m, w, got)
			}
			if want {
				taken++
			}
		}
	}
	// Else the machines would not be worth trying.
	if taken < 10000 {
		t.Errorf("only %d texts were taken", taken)
	}
}

// small is all machines of two spots, each of no byte, of a, or of a and b.
func small(use func(m api.Machine)) {
	sets := []string{"", "a", "ab"}
	lists := [][]int{nil, {0}, {1}, {0, 1}}
	for i := range 9 * 4 * 4 * 4 * 4 {
		digit := func(of int) int {
			d := i % of
			i /= of
			return d
		}
		use(api.Machine{
			Spots:  []api.Spot{spot(sets[digit(3)]), tagged(sets[digit(3)], 1)},
			First:  lists[digit(4)],
			Follow: [][]int{lists[digit(4)], lists[digit(4)]},
			Last:   [][]bool{{false, false}, {false, true}, {true, false}, {true, true}}[digit(4)],
		})
	}
}

// P10.1 to P10.3: all small machines.
func TestSmall(t *testing.T) {
	tried := words(4, 'a', 'b', 'c')
	small(func(m api.Machine) {
		x, e := nfa.Trim(m)
		if e != api.OK || !nfa.Right(x) || told(x) != told(trimmed(m)) {
			t.Fatalf("%v: Trim: %v, %d", m, x, e)
		}
		for _, w := range tried {
			want := takes(m, w)
			if nfa.Run(m, w) != want || nfa.Run(x, w) != want {
				t.Fatalf("%v: Run(%q): %v, trimmed %v", m, w, nfa.Run(m, w), nfa.Run(x, w))
			}
		}
	})
}

// P10.2: Trim, written down.
func TestTrim(t *testing.T) {
	mazed := api.Machine{
		Spots:  []api.Spot{tagged("ab", 1), tagged("c", 2), tagged("b", 1), spot("d")},
		First:  []int{0, 3},
		Follow: [][]int{{0, 1}, {2}, {0, 2}, nil},
		Last:   []bool{false, false, true, true},
	}
	emptied := maze()
	emptied.Empty = true
	mazedEmpty := clone(mazed)
	mazedEmpty.Empty = true
	noFirst, noLast, noBytes := full(250), full(250), full(250)
	noFirst.First = nil
	clear(noLast.Last)
	noLast.Empty = true
	for k := range noBytes.Spots {
		noBytes.Spots[k].Set = api.Set{}
	}
	loose := full(3)
	loose.First, loose.Follow = []int{1}, [][]int{{1}, {1}, {1}}
	alone := api.Machine{Spots: []api.Spot{{Set: octets.All()}}, First: []int{0}, Follow: [][]int{{0}}, Last: []bool{true}}
	for _, x := range []struct {
		name    string
		m, want api.Machine
	}{
		{"zero", api.Machine{}, api.Machine{}},
		{"only Empty", api.Machine{Empty: true}, api.Machine{Empty: true}},
		{"maze", maze(), mazed},
		{"maze that is Empty", emptied, mazedEmpty},
		{"one that is trimmed", mazed, mazed},
		{"nothing first", noFirst, api.Machine{}},
		{"nothing last", noLast, api.Machine{Empty: true}},
		{"no bytes", noBytes, api.Machine{}},
		{"spots that are reached by none", loose, alone},
		{"full", full(250), full(250)},
		{"chain", chain(250), chain(250)},
	} {
		got, e := nfa.Trim(x.m)
		if e != api.OK || told(got) != told(x.want) {
			t.Errorf("%s: %v, %d", x.name, got, e)
		}
	}
}

// P10.2: a spot in whose way one without a byte stands is not useful; and one way is enough.
func TestTrimWays(t *testing.T) {
	m := chain(200)
	m.Spots[100].Set = api.Set{}
	if x, e := nfa.Trim(m); e != api.OK || told(x) != told(api.Machine{}) {
		t.Errorf("a gap: %v, %d", x, e)
	}
	m.Follow[99] = []int{100, 101}
	want := chain(199)
	if x, e := nfa.Trim(m); e != api.OK || told(x) != told(want) {
		t.Errorf("a way round the gap: %v, %d", x, e)
	}
	m = chain(200)
	m.Last[149] = true
	m.Spots[199].Set = api.Set{}
	want = chain(150)
	if x, e := nfa.Trim(m); e != api.OK || told(x) != told(want) {
		t.Errorf("the end is gone: %v, %d", x, e)
	}
	m = chain(200)
	m.First = []int{50}
	want = chain(150)
	if x, e := nfa.Trim(m); e != api.OK || told(x) != told(want) {
		t.Errorf("a later beginning: %v, %d", x, e)
	}
}

// P10.2, P10.3: Trim against the model, of machines without a plan.
func TestTrimModel(t *testing.T) {
	plan := chance(2)
	tried := words(5, 'a', 'b', 'c')
	went, stayed := 0, 0
	for range 400 {
		m := plan.machine(plan.below(9))
		x, e := nfa.Trim(m)
		if e != api.OK || told(x) != told(trimmed(m)) {
			t.Fatalf("%v: %v, %d", m, x, e)
		}
		for _, w := range tried {
			if nfa.Run(x, w) != takes(m, w) || takes(x, w) != takes(m, w) {
				t.Fatalf("%v, trimmed %v: %q", m, x, w)
			}
		}
		stayed += len(x.Spots)
		went += len(m.Spots) - len(x.Spots)
	}
	// Else the machines would not be worth trying.
	if went < 400 || stayed < 400 {
		t.Errorf("%d spots went, %d stayed", went, stayed)
	}
}

// P10.3: what Trim tells is right, each of its spots is useful, and trimmed again it is the same; of machines of many spots, too.
func TestTrimAgain(t *testing.T) {
	plan := chance(4)
	for i := range 300 {
		m := plan.machine(i % 251)
		x, e := nfa.Trim(m)
		if e != api.OK || !nfa.Right(x) || x.Empty != m.Empty {
			t.Fatalf("%v: %v, %d", m, x, e)
		}
		if i%10 == 0 && slices.Contains(uses(x), false) {
			t.Fatalf("%v: a spot is not useful", x)
		}
		y, e := nfa.Trim(x)
		if e != api.OK || told(y) != told(x) || !nfa.Same(x, y) {
			t.Fatalf("%v: trimmed again %v, %d", x, y, e)
		}
	}
}

// reads tells whether some run that ends well, of so many bytes at most, reads a byte into the spot k: the definition, run by run.
func reads(m api.Machine, k, most int) bool {
	var on func(at, bytes int, been bool) bool
	on = func(at, bytes int, been bool) bool {
		if m.Spots[at].Set == (api.Set{}) {
			return false
		}
		been = been || at == k
		if been && m.Last[at] {
			return true
		}
		return bytes < most && slices.ContainsFunc(m.Follow[at], func(to int) bool { return on(to, bytes+1, been) })
	}
	return slices.ContainsFunc(m.First, func(from int) bool { return on(from, 1, false) })
}

// P10.3: just the useful spots stay, by the chapter's words.
func TestUseful(t *testing.T) {
	plan := chance(5)
	for range 300 {
		m := plan.machine(1 + plan.below(4))
		var want []api.Spot
		for k, s := range m.Spots {
			// Two ways without a spot twice are long enough.
			if reads(m, k, 2*len(m.Spots)) {
				want = append(want, s)
			}
		}
		x, _ := nfa.Trim(m)
		if !slices.Equal(x.Spots, want) {
			t.Fatalf("%v: %v", m, x)
		}
		for k := range x.Spots {
			if !reads(x, k, 2*len(x.Spots)) {
				t.Fatalf("%v: the spot %d is not useful", x, k)
			}
		}
	}
}

// P10.2: Sets, of machines that are not right too.
func TestSets(t *testing.T) {
	a, b, none := octets.Of('a'), octets.Of('b'), api.Set{}
	most := api.Machine{}
	var each []api.Set
	for i := range 600 {
		s := api.Set{uint64(i % 300 % 7), 5, uint64(i % 300 / 7), 1 << 63}
		most.Spots = append(most.Spots, api.Spot{Set: s, Tag: uint8(i)})
		if i < 300 {
			each = append(each, s)
		}
	}
	for _, x := range []struct {
		name string
		m    api.Machine
		want []api.Set
	}{
		{"zero", api.Machine{}, nil},
		{"no spots, but more", api.Machine{First: []int{0, 0}, Follow: [][]int{{1}}, Last: []bool{true}, Empty: true}, nil},
		{"example", example(), []api.Set{a, b, octets.Of('c')}},
		{"maze", maze(), []api.Set{none, octets.Of('a', 'b'), octets.Of('z'), octets.Of('c'), a, b, octets.Of('d')}},
		{"tags do not matter", api.Machine{Spots: []api.Spot{tagged("b", 1), tagged("a", 2), tagged("b", 2), tagged("a", 1), spot("b")}}, []api.Set{b, a}},
		{"no byte", api.Machine{Spots: []api.Spot{spot("a"), spot(""), spot("")}}, []api.Set{a, none}},
		{"in no order", api.Machine{Spots: []api.Spot{spot("z"), spot("a"), spot("m"), spot("z"), spot("ma")}}, []api.Set{octets.Of('z'), a, octets.Of('m'), octets.Of('a', 'm')}},
		{"each byte of the set", api.Machine{Spots: []api.Spot{spot("\x00"), spot("\x40"), spot("\x80"), spot("\xc0"), spot("\x40")}}, []api.Set{{1}, {0, 1}, {0, 0, 1}, {0, 0, 0, 1}}},
		{"full", full(250), []api.Set{octets.All()}},
		{"251 spots", chain(251), []api.Set{octets.All()}},
		{"600 spots", most, each},
	} {
		got := nfa.Sets(x.m)
		if !slices.Equal(got, x.want) {
			t.Errorf("%s: %v", x.name, got)
		}
	}
}

// P10.1: Copy, of all kinds of machines, such too that are not right.
func TestCopy(t *testing.T) {
	some := wrong()
	some["zero"], some["only Empty"], some["example"], some["maze"], some["full"] = api.Machine{}, api.Machine{Empty: true}, example(), maze(), full(250)
	for name, m := range some {
		was := told(m)
		c := nfa.Copy(m)
		if told(c) != was || !nfa.Same(c, m) || !nfa.Same(m, c) {
			t.Errorf("%s: %v", name, c)
		}
	}
}

// unlike are machines that are all unlike.
func unlike() []api.Machine {
	all := []api.Machine{
		{}, {Empty: true}, {First: []int{0}}, {First: []int{0, 0}}, {Last: []bool{false}}, {Last: []bool{true}}, {Follow: [][]int{nil}}, {Follow: [][]int{nil, nil}}, {Follow: [][]int{{0}}},
		{Spots: make([]api.Spot, 1)}, {Spots: make([]api.Spot, 2)}, full(2), full(250), full(251), chain(250), chain(251),
	}
	for _, turn := range []func(m *api.Machine){
		func(m *api.Machine) {},
		func(m *api.Machine) { m.Empty = !m.Empty },
		func(m *api.Machine) { m.Spots[0].Tag = 1 },
		func(m *api.Machine) { m.Spots[0].Tag = 7 },
		func(m *api.Machine) { m.Spots[2].Tag = 2 },
		func(m *api.Machine) { m.Spots[0].Set[3] = 1 << 63 },
		func(m *api.Machine) { m.Spots[2].Set = api.Set{} },
		func(m *api.Machine) { m.Spots = m.Spots[:2] },
		func(m *api.Machine) { m.Spots = append(m.Spots, api.Spot{}) },
		func(m *api.Machine) { m.Spots[0], m.Spots[1] = m.Spots[1], m.Spots[0] },
		func(m *api.Machine) { m.First = nil },
		func(m *api.Machine) { m.First = []int{1} },
		func(m *api.Machine) { m.First = []int{0, 2} },
		func(m *api.Machine) { m.First = []int{2, 0} },
		func(m *api.Machine) { m.First = []int{-1} },
		func(m *api.Machine) { m.Follow[0] = nil },
		func(m *api.Machine) { m.Follow[0] = []int{1} },
		func(m *api.Machine) { m.Follow[0] = []int{2, 1} },
		func(m *api.Machine) { m.Follow[0] = []int{1, 2, 2} },
		func(m *api.Machine) { m.Follow[2] = []int{0} },
		func(m *api.Machine) { m.Follow[0], m.Follow[1] = m.Follow[1], m.Follow[0] },
		func(m *api.Machine) { m.Follow = m.Follow[:2] },
		func(m *api.Machine) { m.Follow = append(m.Follow, nil) },
		func(m *api.Machine) { m.Follow = nil },
		func(m *api.Machine) { m.Last[0] = true },
		func(m *api.Machine) { m.Last[1] = false },
		func(m *api.Machine) { m.Last[2] = true },
		func(m *api.Machine) { m.Last = m.Last[:2] },
		func(m *api.Machine) { m.Last = append(m.Last, false) },
		func(m *api.Machine) { m.Last = nil },
	} {
		m := example()
		turn(&m)
		all = append(all, m)
	}
	return all
}

// P10.1: Same, each of many with each.
func TestSame(t *testing.T) {
	for i, a := range unlike() {
		for j, b := range unlike() {
			if nfa.Same(a, b) != (i == j) {
				t.Errorf("%d and %d: %v", i, j, nfa.Same(a, b))
			}
		}
	}
}

// P10.1: lists without anything in them are alike, nil or not.
func TestSameNothing(t *testing.T) {
	a := api.Machine{}
	b := api.Machine{Spots: []api.Spot{}, First: []int{}, Follow: [][]int{}, Last: make([]bool, 0, 5)}
	if !nfa.Same(a, b) || !nfa.Same(b, a) || !nfa.Same(nfa.Copy(a), nfa.Copy(b)) {
		t.Errorf("nothing")
	}
	a, b = example(), example()
	a.Follow[1], b.Follow[1], b.Follow[2] = nil, []int{}, make([]int, 0, 9)
	a.First, b.First = nil, []int{}
	if !nfa.Same(a, b) || !nfa.Same(b, a) || !nfa.Same(nfa.Copy(a), nfa.Copy(b)) {
		t.Errorf("lists of what follows")
	}
	a, b = maze(), roomy(maze())
	if !nfa.Same(a, b) || !nfa.Same(b, a) {
		t.Errorf("spare room")
	}
}

// P10.1, P10.2, R4: what Copy and Trim tell is memory of its own, list by list.
func TestOwnMemory(t *testing.T) {
	for _, m := range []api.Machine{{}, example(), maze(), full(9), chain(5)} {
		m = roomy(m)
		own(t, m, func() api.Machine { return nfa.Copy(m) })
		own(t, m, func() api.Machine {
			x, _ := nfa.Trim(m)
			return x
		})
	}
	// One list stands in many places of what is handed in.
	shared := []int{0, 1, 2, 3}
	m := full(4)
	m.First = shared
	for k := range m.Follow {
		m.Follow[k] = shared
	}
	own(t, m, func() api.Machine { return nfa.Copy(m) })
	own(t, m, func() api.Machine {
		x, _ := nfa.Trim(m)
		return x
	})
}

// P10.2, R4: the Sets are memory of its own.
func TestSetsMemory(t *testing.T) {
	m := roomy(maze())
	was := all(m)
	first := nfa.Sets(m)
	second := nfa.Sets(m)
	want := slices.Clone(second)
	fill(first, octets.All())
	if !slices.Equal(second, want) || all(m) != was {
		t.Errorf("they share memory")
	}
}

// R3, R4: nothing that is handed in is changed, its spare room neither, and what is told is told again.
func TestUnchanged(t *testing.T) {
	for _, m := range append(unlike(), maze(), full(5)) {
		m = roomy(m)
		was := all(m)
		tell := func() string {
			x, e := nfa.Trim(m)
			return fmt.Sprint(nfa.Right(m), nfa.Run(m, ""), nfa.Run(m, "ab"), nfa.Run(m, "acb"), x, e, nfa.Sets(m), nfa.Copy(m), nfa.Same(m, example()), nfa.Same(maze(), m))
		}
		first := tell()
		nfa.Run(full(7), "aaaa")
		nfa.Trim(maze())
		if tell() != first {
			t.Errorf("%v: told otherwise the second time", m)
		}
		if all(m) != was {
			t.Errorf("%v: it was changed", m)
		}
	}
}

// alike are of each class of the partition of m's Sets two bytes: its least one, and its greatest one.
func alike(m api.Machine) (least, greatest []byte) {
	for _, s := range classes.Refine(nfa.Sets(m)...).Sets() {
		list := octets.List(s)
		least, greatest = append(least, list[0]), append(greatest, list[len(list)-1])
	}
	return least, greatest
}

// P10.3: texts whose bytes have the same classes, one by one, are taken alike.
func TestClasses(t *testing.T) {
	wide := maze()
	wide.Spots[1].Set = octets.Range(0x80, 0xff)
	wide.Spots[3].Set = octets.Not(octets.Range('a', 'z'))
	wide.Spots[6].Set = octets.Range(0, 'm')
	wide.Spots[7].Set = octets.Of(0, 0xff)
	machines := []api.Machine{{}, example(), maze(), wide, full(3)}
	plan := chance(6)
	for range 60 {
		m := plan.machine(1 + plan.below(6))
		for k := range m.Spots {
			from := byte(plan.below(256))
			m.Spots[k].Set = octets.Range(from, from+byte(plan.below(200)))
		}
		machines = append(machines, m)
	}
	for _, m := range machines {
		least, greatest := alike(m)
		for _, w := range words(3, least...) {
			other := []byte(w)
			for i, c := range other {
				other[i] = greatest[slices.Index(least, c)]
			}
			if got := nfa.Run(m, string(other)); got != nfa.Run(m, w) || got != takes(m, w) {
				t.Fatalf("%v: %q: %v, %q: %v", m, w, nfa.Run(m, w), other, got)
			}
		}
	}
}

// P10.1: texts of many bytes, where there are as many runs as can be, end soon enough.
func TestLong(t *testing.T) {
	m := full(250)
	text := strings.Repeat("http://a@b/\xff", 1<<13)
	if !nfa.Run(m, text) {
		t.Errorf("a long text is not taken")
	}
	for k := range m.Spots {
		m.Spots[k].Set = octets.Not(octets.Of('!'))
	}
	if nfa.Run(m, text+"!") || nfa.Run(m, "!"+text) || !nfa.Run(m, text) {
		t.Errorf("a long text with a byte that no spot has")
	}
	// Of an even number of bytes only the spot 1 is behind it.
	pair := api.Machine{Spots: []api.Spot{{Set: octets.All()}, {Set: octets.All()}}, First: []int{0}, Follow: [][]int{{1}, {0}}, Last: []bool{false, true}}
	if !nfa.Run(pair, text) || nfa.Run(pair, text[1:]) {
		t.Errorf("a long text, byte by byte")
	}
}
