package fst_test

import (
	"fmt"
	"math"
	"slices"
	"strings"
	"testing"

	"shibboleth/api"
	"shibboleth/fst"
	"shibboleth/nfa"
	"shibboleth/octets"
)

// spot is a spot of these bytes.
func spot(letters string, tag uint8) api.Spot {
	return api.Spot{Set: octets.Of([]byte(letters)...), Tag: tag}
}

// example is the chapter's machine.
func example() api.Machine {
	return api.Machine{
		Spots:  []api.Spot{spot("a", 0), spot("a", api.Host), spot("b", 0)},
		First:  []int{0, 1},
		Follow: [][]int{{2}, {2}, nil},
		Last:   []bool{false, false, true},
	}
}

// full is a machine of many spots, of all bytes, each of which is first, last and behind each.
func full(many int) api.Machine {
	m := api.Machine{Spots: make([]api.Spot, many), First: make([]int, many), Follow: make([][]int, many), Last: make([]bool, many)}
	for k := range many {
		m.First[k] = k
	}
	for k := range many {
		m.Spots[k].Set = octets.All()
		m.Follow[k] = slices.Clone(m.First)
		m.Last[k] = true
	}
	return m
}

// row is a machine of one spot for each byte of the text, one behind the other, which takes just the text, and marks all of it.
func row(text string, tag uint8) api.Machine {
	m := api.Machine{First: []int{0}, Follow: make([][]int, len(text)), Last: make([]bool, len(text))}
	for k := range len(text) {
		m.Spots = append(m.Spots, spot(text[k:k+1], tag))
		if k > 0 {
			m.Follow[k-1] = []int{k}
		}
	}
	m.Last[len(text)-1] = true
	return m
}

// ring is a machine of so many spots of the letter a, one behind the other and round again, of which one is last.
func ring(many, last int, tag uint8) api.Machine {
	m := row(strings.Repeat("a", many), tag)
	m.Follow[many-1] = []int{0}
	m.Last[many-1], m.Last[last] = false, true
	return m
}

// either is a machine that takes what one of the machines does: their spots stand side by side.
func either(machines ...api.Machine) api.Machine {
	var all api.Machine
	for _, m := range machines {
		by := len(all.Spots)
		all.Spots = append(all.Spots, m.Spots...)
		all.Last = append(all.Last, m.Last...)
		all.First = append(all.First, moved(m.First, by)...)
		for _, list := range m.Follow {
			all.Follow = append(all.Follow, moved(list, by))
		}
		all.Empty = all.Empty || m.Empty
	}
	return all
}

// moved is the list with its numbers greater by so much.
func moved(list []int, by int) []int {
	var all []int
	for _, k := range list {
		all = append(all, k+by)
	}
	return all
}

// words are all words of these bytes with n bytes at most.
func words(n int, letters ...byte) []string {
	all, now := []string{""}, []string{""}
	for range n {
		var longer []string
		for _, w := range now {
			for _, c := range letters {
				longer = append(longer, w+string([]byte{c}))
			}
		}
		all, now = append(all, longer...), longer
	}
	return all
}

// chance is a row of numbers without a plan.
type chance uint64

// below is the next one from 0 to n-1.
func (c *chance) below(n int) int {
	*c = *c*6364136223846793005 + 1442695040888963407
	x := uint64(*c)
	x ^= x >> 29
	return int(x >> 33 % uint64(n))
}

// turned is m with its spots numbered anew.
func (c *chance) turned(m api.Machine) api.Machine {
	row := make([]int, len(m.Spots))
	for i := range row {
		row[i] = i
	}
	for i := len(row) - 1; i > 0; i-- {
		j := c.below(i + 1)
		row[i], row[j] = row[j], row[i]
	}
	renamed := func(list []int) []int {
		var all []int
		for _, k := range list {
			all = append(all, row[k])
		}
		slices.Sort(all)
		return all
	}
	x := api.Machine{Spots: make([]api.Spot, len(row)), First: renamed(m.First), Follow: make([][]int, len(row)), Last: make([]bool, len(row)), Empty: m.Empty}
	for k, to := range row {
		x.Spots[to], x.Follow[to], x.Last[to] = m.Spots[k], renamed(m.Follow[k]), m.Last[k]
	}
	return x
}

// numbers is a rising list of numbers of many spots; each stands in it once in so many times.
func (c *chance) numbers(many, once int) []int {
	var list []int
	for k := range many {
		if c.below(once) == 0 {
			list = append(list, k)
		}
	}
	return list
}

// set is of each of the bytes whether it is in, once in so many times.
func (c *chance) set(letters string, once int) api.Set {
	var s api.Set
	for i := range len(letters) {
		if c.below(once) == 0 {
			s = octets.Or(s, octets.Of(letters[i]))
		}
	}
	return s
}

// machine is a right machine without a plan, of many spots, of these bytes; the greater once is, the fewer there are in a set, and behind a spot.
func (c *chance) machine(many, once int, letters string) api.Machine {
	m := api.Machine{First: c.numbers(many, 2), Empty: c.below(2) == 0}
	for range many {
		m.Spots = append(m.Spots, api.Spot{Set: c.set(letters, once), Tag: uint8(c.below(3))})
		m.Follow = append(m.Follow, c.numbers(many, once))
		m.Last = append(m.Last, c.below(3) == 0)
	}
	return m
}

// guided is a machine of many spots, most of which are behind just two, of unlike letters; so there are few ways to read a word.
func (c *chance) guided(many int) api.Machine {
	m := api.Machine{Last: make([]bool, many)}
	for k := range many {
		m.Spots = append(m.Spots, api.Spot{Set: octets.Of("ab"[k%2]), Tag: uint8(c.below(3))})
		even, odd := 2*c.below((many+1)/2), 2*c.below(many/2)+1
		m.Follow = append(m.Follow, []int{min(even, odd), max(even, odd)})
	}
	m.First = []int{0, 1}
	if c.below(2) == 0 && many > 3 {
		m.First = []int{0, 1, 2 + c.below(many-2)}
	}
	for range 2 {
		m.Last[c.below(many)] = true
	}
	return m
}

// word is one without a plan.
func (c *chance) word(long int, letters string) string {
	w := make([]byte, long)
	for i := range w {
		w[i] = letters[c.below(len(letters))]
	}
	return string(w)
}

// read is a word that m takes, of so many bytes if there is a way on all along, and not much more or fewer else; none, if it runs into an end.
func (c *chance) read(m api.Machine, long int) string {
	var w []byte
	next := m.First
	for len(w) < long+2*len(m.Spots) {
		var open []int
		for _, k := range next {
			if m.Spots[k].Set != (api.Set{}) {
				open = append(open, k)
			}
		}
		if open == nil {
			return ""
		}
		k := open[c.below(len(open))]
		list := octets.List(m.Spots[k].Set)
		w = append(w, list[c.below(len(list))])
		if len(w) >= long && m.Last[k] {
			return string(w)
		}
		next = m.Follow[k]
	}
	return ""
}

// each goes over all runs of m on w that end well, one by one, the lesser ones ahead: chapter 10's words. It stops when tell says so.
func each(m api.Machine, w string, tell func(run []int) bool) {
	if w == "" {
		if m.Empty {
			tell(nil)
		}
		return
	}
	run := make([]int, len(w))
	var from func(i int, next []int) bool
	from = func(i int, next []int) bool {
		for _, k := range next {
			if !octets.Has(m.Spots[k].Set, w[i]) {
				continue
			}
			run[i] = k
			if i < len(w)-1 && !from(i+1, m.Follow[k]) || i == len(w)-1 && m.Last[k] && !tell(run) {
				return false
			}
		}
		return true
	}
	from(0, m.First)
}

// tags is what the run marks.
func tags(m api.Machine, run []int) []uint8 {
	marks := make([]uint8, len(run))
	for i, k := range run {
		marks[i] = m.Spots[k].Tag
	}
	return marks
}

// marks is the model of Marks for short words: of all runs that end well the least one's tags.
func marks(m api.Machine, w string) ([]uint8, bool) {
	var least []int
	some := false
	each(m, w, func(run []int) bool {
		if !some || slices.Compare(run, least) < 0 {
			least, some = slices.Clone(run), true
		}
		return true
	})
	if !some {
		return nil, false
	}
	return tags(m, least), true
}

// farMarks is the model of Marks for longer words: of each spot the least run that leads to it, byte by byte.
func farMarks(m api.Machine, w string) ([]uint8, bool) {
	if w == "" {
		return nil, m.Empty
	}
	step := func(runs map[int][]int, run []int, next []int, c byte) {
		for _, k := range next {
			if !octets.Has(m.Spots[k].Set, c) {
				continue
			}
			longer := append(slices.Clone(run), k)
			if old, known := runs[k]; !known || slices.Compare(longer, old) < 0 {
				runs[k] = longer
			}
		}
	}
	now := map[int][]int{}
	step(now, nil, m.First, w[0])
	for i := 1; i < len(w); i++ {
		behind := map[int][]int{}
		for k, run := range now {
			step(behind, run, m.Follow[k], w[i])
		}
		now = behind
	}
	var least []int
	for k, run := range now {
		if m.Last[k] && (least == nil || slices.Compare(run, least) < 0) {
			least = run
		}
	}
	if least == nil {
		return nil, false
	}
	return tags(m, least), true
}

// same tells whether on each of the words all runs that end well mark alike.
func same(m api.Machine, words []string) bool {
	for _, w := range words {
		var first []int
		alike := true
		each(m, w, func(run []int) bool {
			if first == nil {
				first = slices.Clone(run)
			}
			for i, k := range run {
				alike = alike && m.Spots[k].Tag == m.Spots[first[i]].Tag
			}
			return alike
		})
		if !alike {
			return false
		}
	}
	return true
}

// grid is of each two spots whether they are in.
type grid [][]bool

// newGrid is a grid of many spots, of those two that start says.
func newGrid(many int, start func(i, j int) bool) grid {
	g := make(grid, many)
	for i := range g {
		g[i] = make([]bool, many)
		for j := range g[i] {
			g[i][j] = start(i, j)
		}
	}
	return g
}

// single is the model of Single: are there two spots of unlike tags, to which one text leads, and from which one text leads to an end? Each of the two is found by going over all pairs again and again, till nothing is new.
func single(m api.Machine) bool {
	many := len(m.Spots)
	meet := newGrid(many, func(i, j int) bool { return octets.And(m.Spots[i].Set, m.Spots[j].Set) != api.Set{} })
	begun := newGrid(many, func(i, j int) bool {
		return meet[i][j] && slices.Contains(m.First, i) && slices.Contains(m.First, j)
	})
	ending := newGrid(many, func(i, j int) bool { return m.Last[i] && m.Last[j] })
	for again := true; again; {
		again = false
		for i := range many {
			for j := range many {
				for _, x := range m.Follow[i] {
					for _, y := range m.Follow[j] {
						if !meet[x][y] {
							continue
						}
						if begun[i][j] && !begun[x][y] {
							begun[x][y], again = true, true
						}
						if ending[x][y] && !ending[i][j] {
							ending[i][j], again = true, true
						}
					}
				}
			}
		}
	}
	for i := range many {
		for j := range many {
			if begun[i][j] && ending[i][j] && m.Spots[i].Tag != m.Spots[j].Tag {
				return false
			}
		}
	}
	return true
}

// field is the bytes of w that have the tag.
func field(w string, marks []uint8, tag uint8) string {
	text := ""
	for i := range marks {
		if marks[i] == tag {
			text += w[i : i+1]
		}
	}
	return text
}

// holds holds Marks and Run of w against what a model tells.
func holds(t *testing.T, name string, m api.Machine, w string, want []uint8, ok bool) {
	t.Helper()
	got, taken := fst.Marks(m, w)
	if !slices.Equal(got, want) || taken != ok || taken != nfa.Run(m, w) {
		t.Fatalf("%s: %v of %q: %v, %v, not %v, %v", name, m, w, got, taken, want, ok)
	}
	parsed := api.Parsed{}
	if ok {
		parsed = api.Parsed{OK: true, Host: field(w, want, 1), Path: field(w, want, 2)}
	}
	if p := fst.Run(m, w); p != parsed {
		t.Fatalf("%s: %v of %q: %v, not %v", name, m, w, p, parsed)
	}
}

// allOf is m with its lists' spare room, as a text.
func allOf(m api.Machine) string {
	text := fmt.Sprint(m.Spots[:cap(m.Spots)], m.First[:cap(m.First)], m.Follow[:cap(m.Follow)], m.Last[:cap(m.Last)], m.Empty)
	for _, list := range m.Follow[:cap(m.Follow)] {
		text += fmt.Sprint(list[:cap(list)])
	}
	return text
}

// roomy is m with spare room behind each list, where there is something.
func roomy(m api.Machine) api.Machine {
	r := m
	r.Spots = slices.Concat(m.Spots, []api.Spot{spot("q", 1), spot("r", 77)})[:len(m.Spots)]
	r.First = slices.Concat(m.First, []int{-5, 88})[:len(m.First)]
	r.Last = slices.Concat(m.Last, []bool{true, false, true})[:len(m.Last)]
	r.Follow = nil
	for _, list := range m.Follow {
		r.Follow = append(r.Follow, slices.Concat(list, []int{-6, 99})[:len(list)])
	}
	r.Follow = append(r.Follow, []int{4, 2}, []int{7})[:len(m.Follow)]
	return r
}

// wrong are machines that are not right, by what is wrong of them; each would take something, if that didn't matter.
func wrong() map[string]api.Machine {
	most := map[string]api.Machine{
		"251 spots":                         full(251),
		"257 spots":                         full(257),
		"many spots":                        row(strings.Repeat("ab", 35000), 0),
		"no spots, but one that is first":   {First: []int{0}},
		"no spots, but one that is last":    {Last: []bool{true}},
		"no spots, but what follows":        {Follow: [][]int{{0}}},
		"no spots, but all else":            {First: []int{0}, Follow: [][]int{{0}}, Last: []bool{true}},
		"one spot, without Follow and Last": {Spots: []api.Spot{spot("a", 0)}, First: []int{0}},
		"one spot, without Follow":          {Spots: []api.Spot{spot("a", 0)}, First: []int{0}, Last: []bool{true}},
		"one spot, without Last":            {Spots: []api.Spot{spot("a", 0)}, First: []int{0}, Follow: [][]int{nil}},
	}
	for why, turn := range map[string]func(m *api.Machine){
		"Follow is too short":           func(m *api.Machine) { m.Follow = m.Follow[:2] },
		"Follow is too long":            func(m *api.Machine) { m.Follow = append(m.Follow, nil) },
		"Last is too short":             func(m *api.Machine) { m.Last = m.Last[:2] },
		"Last is too long":              func(m *api.Machine) { m.Last = append(m.Last, false) },
		"a tag of 3":                    func(m *api.Machine) { m.Spots[2].Tag = 3 },
		"a tag of 255":                  func(m *api.Machine) { m.Spots[0].Tag = 255 },
		"a tag of 3, of no byte":        func(m *api.Machine) { m.Spots[1] = spot("", 3) },
		"First falls":                   func(m *api.Machine) { m.First = []int{1, 0} },
		"First has one twice":           func(m *api.Machine) { m.First = []int{0, 0} },
		"First has too much":            func(m *api.Machine) { m.First = []int{0, 3} },
		"First has a number below 0":    func(m *api.Machine) { m.First = []int{-1, 0} },
		"First has the greatest number": func(m *api.Machine) { m.First = []int{0, math.MaxInt} },
		"Follow falls":                  func(m *api.Machine) { m.Follow[0] = []int{2, 1} },
		"Follow has one twice":          func(m *api.Machine) { m.Follow[0] = []int{2, 2} },
		"Follow has too much":           func(m *api.Machine) { m.Follow[2] = []int{3} },
		"Follow has a number below 0":   func(m *api.Machine) { m.Follow[1] = []int{-1} },
		"Follow has the least number":   func(m *api.Machine) { m.Follow[1] = []int{math.MinInt} },
		"Follow has 256 more":           func(m *api.Machine) { m.Follow[0] = []int{2, 258} },
	} {
		m := example()
		m.Spots[1].Set = octets.Of('c')
		turn(&m)
		most[why] = m
	}
	return most
}
