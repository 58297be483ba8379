package spots_test

import (
	"fmt"
	"math"
	"slices"
	"strconv"
	"strings"
	"testing"

	"shibboleth/api"
	"shibboleth/octets"
	"shibboleth/rex"
	"shibboleth/spots"
)

// plant is a node with what stands below it, so that a tree can be written down without numbers.
type plant struct {
	node  api.Node
	below []plant
}

func empty() plant         { return plant{node: api.Node{Kind: api.NEmpty}} }
func set(s api.Set) plant  { return plant{node: api.Node{Kind: api.NSet, Set: s}} }
func one(c byte) plant     { return set(octets.Of(c)) }
func seq(a, b plant) plant { return plant{api.Node{Kind: api.NSeq}, []plant{a, b}} }
func alt(a, b plant) plant { return plant{api.Node{Kind: api.NAlt}, []plant{a, b}} }
func times(a plant, least, most int) plant {
	return plant{api.Node{Kind: api.NTimes, Min: least, Max: most}, []plant{a}}
}

// part is a part of a tree.
type part struct {
	root plant
	not  bool
}

// layBy lays the parts into an api.Tree, its nodes numbered as they end, what stands below a node taken in this order.
func layBy(order []int, parts []part) api.Tree {
	var t api.Tree
	var put func(p plant) int
	put = func(p plant) int {
		n := p.node
		for _, k := range order {
			switch {
			case k >= len(p.below):
			case k == 0:
				n.A = put(p.below[0])
			default:
				n.B = put(p.below[1])
			}
		}
		t.Nodes = append(t.Nodes, n)
		return len(t.Nodes) - 1
	}
	for _, p := range parts {
		t.Parts = append(t.Parts, api.Part{Root: put(p.root), Not: p.not})
	}
	return t
}

// lay lays the parts: A's nodes, B's, then the node itself.
func lay(parts ...part) api.Tree {
	return layBy([]int{0, 1}, parts)
}

// layLast is lay, the parts' nodes and what stands below a node numbered from the last one on.
func layLast(parts ...part) api.Tree {
	turned := slices.Clone(parts)
	slices.Reverse(turned)
	t := layBy([]int{1, 0}, turned)
	slices.Reverse(t.Parts)
	return t
}

// alone is a tree of one part that does not say Not.
func alone(p plant) api.Tree {
	return lay(part{p, false})
}

// graph is the model of a part: a node of the tree goes from one of its points to another one, by steps that read nothing
// and by places, each of which goes from a point to a point.
type graph struct {
	steps  [][]int
	places [][2]int
	sets   []api.Set
}

// point is a new point.
func (g *graph) point() int {
	g.steps = append(g.steps, nil)
	return len(g.steps) - 1
}

// step lets one go from a point to a point.
func (g *graph) step(from, to int) {
	g.steps[from] = append(g.steps[from], to)
}

// draw draws a plant, as the chapter says its words.
func (g *graph) draw(p plant) (in, out int) {
	in, out = g.point(), g.point()
	switch p.node.Kind {
	case api.NEmpty:
		g.step(in, out)
	case api.NSet:
		g.places = append(g.places, [2]int{in, out})
		g.sets = append(g.sets, p.node.Set)
	case api.NSeq:
		a, b := g.draw(p.below[0])
		c, d := g.draw(p.below[1])
		g.step(in, a)
		g.step(b, c)
		g.step(d, out)
	case api.NAlt:
		for _, q := range p.below {
			a, b := g.draw(q)
			g.step(in, a)
			g.step(b, out)
		}
	case api.NTimes:
		g.drawTimes(p, in, out)
	}
	return in, out
}

// drawTimes draws copy by copy, of which those behind the first Min may be passed by; of Max -1 one may go back.
func (g *graph) drawTimes(p plant, in, out int) {
	at := in
	for i := range max(p.node.Max, -p.node.Max) {
		a, b := g.draw(p.below[0])
		next := g.point()
		g.step(at, a)
		g.step(b, next)
		if i >= p.node.Min {
			g.step(at, next)
		}
		if p.node.Max == -1 {
			g.step(b, a)
		}
		at = next
	}
	g.step(at, out)
}

// reach is the points to which one comes from a point without reading.
func (g *graph) reach(from int) []bool {
	found := make([]bool, len(g.steps))
	var visit func(k int)
	visit = func(k int) {
		if !found[k] {
			found[k] = true
			for _, next := range g.steps[k] {
				visit(next)
			}
		}
	}
	visit(from)
	return found
}

// into is the places into which one can read behind a point.
func (g *graph) into(from int) uint64 {
	found, all := g.reach(from), uint64(0)
	for k, p := range g.places {
		if found[p[0]] {
			all |= 1 << k
		}
	}
	return all
}

// modelled is what the chapter's words say of parts, by one graph of them all.
func modelled(parts []part) spots.Made {
	var g graph
	var made spots.Made
	var borders [][2]int
	for _, p := range parts {
		in, out := g.draw(p.root)
		borders = append(borders, [2]int{in, out})
	}
	for i, b := range borders {
		last := uint64(0)
		for k, p := range g.places {
			if g.reach(p[1])[b[1]] {
				last |= 1 << k
			}
		}
		made.First = append(made.First, g.into(b[0]))
		made.Last = append(made.Last, last)
		made.Empty = append(made.Empty, g.reach(b[0])[b[1]])
		made.Not = append(made.Not, parts[i].not)
	}
	for _, p := range g.places {
		made.Follow = append(made.Follow, g.into(p[1]))
	}
	made.Sets = g.sets
	return made
}

// same tells whether two answers are one.
func same(x, y spots.Made) bool {
	return slices.Equal(x.Sets, y.Sets) && slices.Equal(x.First, y.First) && slices.Equal(x.Last, y.Last) &&
		slices.Equal(x.Follow, y.Follow) && slices.Equal(x.Empty, y.Empty) && slices.Equal(x.Not, y.Not)
}

// nothing tells whether an answer has no places and no parts.
func nothing(x spots.Made) bool {
	return same(x, spots.Made{})
}

// holds holds parts, laid in two ways, against the model.
func holds(t *testing.T, parts ...part) {
	t.Helper()
	ways := []api.Tree{lay(parts...), layLast(parts...)}
	if countParts(parts) > 63 {
		for _, y := range ways {
			refuse(t, fmt.Sprint("many places: ", y), y, api.ErrLong)
		}
		return
	}
	want := modelled(parts)
	for _, y := range ways {
		if got, e := spots.Of(y); e != api.OK || !same(got, want) {
			t.Fatalf("Of(%v): %v, %d; not %v", y, got, e, want)
		}
	}
}

// refuse wants a tree to be refused with that error.
func refuse(t *testing.T, why string, y api.Tree, want api.Errno) {
	t.Helper()
	if got, e := spots.Of(y); e != want || !nothing(got) {
		t.Errorf("%s: %v, %d; not %d", why, got, e, want)
	}
}

// small are all plants of n nodes at most, with few leaves and few ways of saying how often.
func small(n int) []plant {
	sized := make([][]plant, n+1)
	sized[1] = []plant{empty(), one('a'), one('b'), set(octets.Of('a', 'b')), set(api.Set{})}
	for size := 2; size <= n; size++ {
		for _, p := range sized[size-1] {
			sized[size] = append(sized[size], times(p, 0, -1), times(p, 1, -1), times(p, 0, 0), times(p, 0, 2), times(p, 1, 3), times(p, 2, 2))
		}
		for ahead := 1; ahead < size-1; ahead++ {
			for _, a := range sized[ahead] {
				for _, b := range sized[size-1-ahead] {
					sized[size] = append(sized[size], seq(a, b), alt(a, b))
				}
			}
		}
	}
	return slices.Concat(sized...)
}

// chain is a plant of n nodes, each the one thing below the next.
func chain(n int, leaf plant, least, most int) plant {
	p := leaf
	for range n - 1 {
		p = times(p, least, most)
	}
	return p
}

// row is n plants one behind the other.
func row(n int, p plant) plant {
	all := p
	for range n - 1 {
		all = seq(all, p)
	}
	return all
}

// chance is a row of numbers without a plan.
type chance uint64

// below is the next one, from 0 to n-1.
func (c *chance) below(n int) int {
	*c = *c*6364136223846793005 + 1442695040888963407
	return int(uint64(*c) >> 33 % uint64(n))
}

// often is how often something is there, without a plan.
func (c *chance) often(p plant) plant {
	switch c.below(8) {
	case 0:
		return times(p, c.below(2), -1)
	case 1:
		return times(p, 0, 0)
	}
	least := c.below(3)
	return times(p, least, least+c.below(3))
}

// plant is one without a plan, with at most so many nodes.
func (c *chance) plant(most int) plant {
	kind := c.below(10)
	switch {
	case most < 2 || kind == 0:
		if c.below(5) == 0 {
			return empty()
		}
		return set(api.Set{uint64(c.below(4)), uint64(c.below(1 << 31))})
	case most < 3 || kind < 3:
		return c.often(c.plant(most - 1))
	}
	ahead := 1 + c.below(most-2)
	if kind < 7 {
		return seq(c.plant(ahead), c.plant(most-1-ahead))
	}
	return alt(c.plant(ahead), c.plant(most-1-ahead))
}

// parts are some without a plan.
func (c *chance) parts() []part {
	list := make([]part, 1+c.below(4))
	for i := range list {
		list[i] = part{c.plant(1 + c.below(24)), c.below(3) == 0}
	}
	return list
}

// count is how many places a plant has, but at most 1000.
func count(p plant) int {
	n := 0
	for _, b := range p.below {
		n += count(b)
	}
	switch {
	case p.node.Kind == api.NSet:
		n = 1
	case p.node.Kind == api.NTimes && p.node.Max != -1:
		n *= p.node.Max
	}
	return min(n, 1000)
}

// countParts is how many places parts have.
func countParts(parts []part) int {
	n := 0
	for _, p := range parts {
		n += count(p.root)
	}
	return n
}

// numbers reads places, written by their bits.
func numbers(t *testing.T, said string) []uint64 {
	t.Helper()
	var list []uint64
	for _, s := range strings.Fields(said) {
		n, err := strconv.ParseUint(s, 2, 64)
		if err != nil {
			t.Fatal(err)
		}
		list = append(list, n)
	}
	return list
}

// P8.1: the chapter's examples, and others, written down.
func TestExamples(t *testing.T) {
	for _, x := range []struct {
		text, sets, first, last, follow, empty, not string
	}{
		{"ab|c", "abc", "101", "110", "010 000 000", "f", "f"},
		{"(ab)*", "ab", "01", "10", "10 01", "t", "f"},
		{"a{2,3}", "aaa", "001", "110", "010 100 000", "f", "f"},
		{"a&!b", "ab", "01 10", "01 10", "00 00", "ff", "ft"},
		{"a{0,2}", "aa", "11", "11", "10 00", "t", "f"},
		{"a{1,4}", "aaaa", "0001", "1111", "1110 1100 1000 0000", "f", "f"},
		{"(ab){0,2}c", "ababc", "10101", "10000", "00010 10100 01000 10000 0", "f", "f"},
		{"(a?b){2}", "abab", "0011", "1000", "0010 1100 1000 0000", "f", "f"},
		{"(a|b*){2}", "abab", "1111", "1111", "1100 1110 0000 1000", "t", "f"},
		{"(a*b+)*", "ab", "11", "10", "11 11", "t", "f"},
		{"(a?){3}", "aaa", "111", "111", "110 100 000", "t", "f"},
		{"(a{2}){2}", "aaaa", "0001", "1000", "0010 0100 1000 0000", "f", "f"},
		{"a{0}", "", "0", "0", "", "t", "f"},
		{"a(b{9}){0}c", "ac", "01", "10", "10 00", "f", "f"},
		{"a+", "a", "1", "1", "1", "f", "f"},
		{"()*&!()", "", "0 0", "0 0", "", "tt", "ft"},
		{"a*&a&!b*c&", "aabc", "0001 0010 1100 0", "0001 0010 1000 0", "1 0 1100 0", "tfft", "fftf"},
	} {
		y, _, e := rex.Parse(x.text)
		if e != api.OK {
			t.Fatalf("%s is no text", x.text)
		}
		want := spots.Made{First: numbers(t, x.first), Last: numbers(t, x.last), Follow: numbers(t, x.follow)}
		for i := range len(x.sets) {
			want.Sets = append(want.Sets, octets.Of(x.sets[i]))
		}
		for i := range len(x.empty) {
			want.Empty = append(want.Empty, x.empty[i] == 't')
			want.Not = append(want.Not, x.not[i] == 't')
		}
		if got, e := spots.Of(y); e != api.OK || !same(got, want) {
			t.Errorf("%s: %v, %d; not %v", x.text, got, e, want)
		}
	}
}

// P8.1: Sets are those of the places, whatever they have: a set of no bytes makes a place as each other one.
func TestSets(t *testing.T) {
	some := []api.Set{{}, octets.All(), octets.Of(0), octets.Of(255), {1, 2, 3, 4}}
	all := set(some[0])
	for _, s := range some[1:] {
		all = seq(all, set(s))
	}
	got, e := spots.Of(alone(times(all, 1, 2)))
	if e != api.OK || !slices.Equal(got.Sets, slices.Concat(some, some)) {
		t.Errorf("Sets: %v, %d", got.Sets, e)
	}
	got, e = spots.Of(alone(alt(set(api.Set{}), one('a'))))
	if e != api.OK || got.First[0] != 3 || got.Last[0] != 3 {
		t.Errorf("a set of no bytes: %v, %d", got, e)
	}
}

// P8.1, P8.2: each way of saying how often, of plants that may be empty and that may not.
func TestTimes(t *testing.T) {
	for _, p := range []plant{empty(), one('a'), times(one('a'), 0, 1), times(one('a'), 0, -1), seq(one('a'), one('b')),
		alt(seq(one('a'), one('b')), empty()), seq(times(one('a'), 0, 1), times(one('b'), 0, 1)), times(one('a'), 0, 0), times(one('a'), 1, 3)} {
		for most := range 10 {
			for least := range most + 1 {
				holds(t, part{times(p, least, most), false})
				holds(t, part{seq(one('c'), seq(times(p, least, most), one('d'))), true})
			}
		}
		for least := range 2 {
			holds(t, part{times(p, least, -1), false})
			holds(t, part{seq(one('c'), seq(times(p, least, -1), one('d'))), true})
			holds(t, part{times(times(p, least, -1), 1, 2), false})
		}
	}
}

// P8.1, P8.2: all small trees, and those of two parts.
func TestSmall(t *testing.T) {
	for _, p := range small(5) {
		holds(t, part{p, false})
	}
	for _, p := range small(3) {
		for _, q := range small(2) {
			for k := range 4 {
				holds(t, part{p, k&1 == 1}, part{q, k&2 == 2})
			}
		}
	}
}

// P8.1, P8.2: trees without a plan, of all sizes up to too many places.
func TestWithoutPlan(t *testing.T) {
	c := chance(1)
	right, long := 0, 0
	for range 20000 {
		parts := c.parts()
		if countParts(parts) > 63 {
			long++
		} else {
			right++
		}
		holds(t, parts...)
	}
	// Else the trees would not be worth trying.
	if right < 1000 || long < 100 {
		t.Errorf("%d trees that are not too long, %d that are", right, long)
	}
}

// reads is the model of a node's words: where in the text a word of the plant may end that begins at from.
func reads(p plant, text string, from int) []bool {
	ends := make([]bool, len(text)+1)
	switch p.node.Kind {
	case api.NEmpty:
		ends[from] = true
	case api.NSet:
		if from < len(text) && octets.Has(p.node.Set, text[from]) {
			ends[from+1] = true
		}
	case api.NAlt:
		other := reads(p.below[1], text, from)
		for i, end := range reads(p.below[0], text, from) {
			ends[i] = end || other[i]
		}
	case api.NSeq:
		ahead := make([]bool, len(text)+1)
		ahead[from] = true
		return readsOn(p.below[1], text, readsOn(p.below[0], text, ahead))
	case api.NTimes:
		most := p.node.Max
		if most == -1 {
			// More often than there are bytes, and Min, is no use.
			most = len(text) + 1
		}
		now := make([]bool, len(text)+1)
		now[from] = true
		for i := range most + 1 {
			for k := range ends {
				ends[k] = ends[k] || now[k] && i >= p.node.Min
			}
			now = readsOn(p.below[0], text, now)
		}
	}
	return ends
}

// readsOn is where it may end if it begins at any of these.
func readsOn(p plant, text string, from []bool) []bool {
	ends := make([]bool, len(text)+1)
	for i, ok := range from {
		if !ok {
			continue
		}
		for k, end := range reads(p, text, i) {
			ends[k] = ends[k] || end
		}
	}
	return ends
}

// goes tells whether a text goes along the places of the part i.
func goes(m spots.Made, i int, text string) bool {
	if text == "" {
		return m.Empty[i]
	}
	next, at := m.First[i], uint64(0)
	for k := range len(text) {
		at = 0
		for p, s := range m.Sets {
			if next>>p&1 == 1 && octets.Has(s, text[k]) {
				at |= 1 << p
			}
		}
		next = 0
		for p, f := range m.Follow {
			if at>>p&1 == 1 {
				next |= f
			}
		}
	}
	return at&m.Last[i] != 0
}

// texts are all of a and b with n bytes at most.
func texts(n int) []string {
	all, now := []string{""}, []string{""}
	for range n {
		var longer []string
		for _, s := range now {
			longer = append(longer, s+"a", s+"b")
		}
		all, now = append(all, longer...), longer
	}
	return all
}

// P8.2: the words are those that the places say.
func TestWords(t *testing.T) {
	all := texts(5)
	try := func(p plant) {
		m, e := spots.Of(lay(part{one('a'), false}, part{p, true}))
		if e != api.OK {
			t.Fatalf("Of %v: %d", p, e)
		}
		for _, s := range all {
			if got, want := goes(m, 1, s), reads(p, s, 0)[len(s)]; got != want {
				t.Fatalf("%v: %q is one of its words: %v", p, s, want)
			}
			if got := goes(m, 0, s); got != (s == "a") {
				t.Fatalf("%v: %q is a word of the part ahead: %v", p, s, got)
			}
		}
	}
	for _, p := range small(4) {
		try(p)
	}
	c := chance(2)
	for range 1000 {
		if p := c.plant(9); count(p) < 63 {
			try(letters(p))
		}
	}
}

// letters is a plant with sets of a and b alone.
func letters(p plant) plant {
	if p.node.Kind == api.NSet {
		return set(api.Set{1: p.node.Set[0] & 3 << ('a' - 64)})
	}
	q := plant{node: p.node}
	for _, b := range p.below {
		q.below = append(q.below, letters(b))
	}
	return q
}

// P8.2: just places of a part's own follow one another.
func TestOwn(t *testing.T) {
	var parts []part
	for i := range 20 {
		parts = append(parts, part{times(row(3, times(one('a'), 0, 1)), i%2, -1), i%3 == 0})
	}
	holds(t, parts...)
	m, e := spots.Of(lay(parts...))
	if e != api.OK || len(m.Sets) != 60 {
		t.Fatalf("20 parts: %v, %d", m, e)
	}
	for i := range 20 {
		own := uint64(7) << (3 * i)
		if m.First[i] != own || m.Last[i] != own || m.Follow[3*i] != own || m.Follow[3*i+1] != own || m.Follow[3*i+2] != own {
			t.Errorf("the part %d: %v", i, m)
		}
	}
}

// P8.1: as many places as there may be, and one more.
func TestMost(t *testing.T) {
	a := one('a')
	for _, x := range []struct {
		why   string
		parts []part
	}{
		{"side by side", []part{{row(63, a), false}}},
		{"copies", []part{{times(times(a, 9, 9), 0, 7), true}}},
		{"copies of copies", []part{{times(times(times(a, 3, 3), 1, 3), 7, 7), false}}},
		{"parts", []part{{row(31, a), false}, {empty(), true}, {times(row(8, a), 1, 4), true}}},
		{"round and round", []part{{times(row(63, times(a, 0, 1)), 0, -1), false}}},
		{"none at the end", []part{{seq(row(63, a), times(times(empty(), 9, 9), 9, 9)), false}}},
		{"many that are there no times", []part{{seq(row(63, a), times(chain(40, a, 9, 9), 0, 0)), false}}},
	} {
		m, e := spots.Of(lay(x.parts...))
		if e != api.OK || len(m.Sets) != 63 || m.Last[len(m.Last)-1]>>62 != 1 || m.Follow[61]>>62 != 1 {
			t.Errorf("%s: %v, %d", x.why, m, e)
		}
		if x.why != "many that are there no times" {
			holds(t, x.parts...)
		}
		refuse(t, x.why+", and one more in a part", lay(append(slices.Clone(x.parts), part{a, false})...), api.ErrLong)
		more := slices.Clone(x.parts)
		more[0].root = alt(more[0].root, a)
		refuse(t, x.why+", and one more", lay(more...), api.ErrLong)
	}
	refuse(t, "8 times 8", alone(times(times(a, 8, 8), 0, 8)), api.ErrLong)
	refuse(t, "9 times each", alone(chain(599, a, 9, 9)), api.ErrLong)
	refuse(t, "64 round and round", alone(row(64, times(a, 0, -1))), api.ErrLong)
}

// P8.1, R1: what has few places, or none, is told soon, however often it is there.
func TestOften(t *testing.T) {
	for _, x := range []struct {
		why    string
		p      plant
		places int
		empty  bool
	}{
		{"no word, 9 times each", chain(600, empty(), 9, 9), 0, true},
		{"no word, up to 9 times each", chain(600, empty(), 0, 9), 0, true},
		{"no times, 9 times each", chain(598, times(one('a'), 0, 0), 9, 9), 0, true},
		{"9 times each, no times", times(chain(599, one('a'), 9, 9), 0, 0), 0, true},
		{"round and round", chain(600, one('a'), 1, -1), 1, false},
		{"perhaps", chain(600, one('a'), 0, 1), 1, true},
		{"once", chain(600, one('a'), 1, 1), 1, false},
		{"9 times each, no times, between", seq(one('a'), seq(times(chain(500, one('b'), 9, 9), 0, 0), one('c'))), 2, false},
		{"no word between", times(seq(one('a'), seq(chain(500, empty(), 9, 9), one('c'))), 3, 3), 6, false},
	} {
		m, e := spots.Of(alone(x.p))
		if e != api.OK || len(m.Sets) != x.places || len(m.Follow) != x.places || len(m.Empty) != 1 || m.Empty[0] != x.empty {
			t.Errorf("%s: %v, %d", x.why, m, e)
		}
		if all := uint64(1)<<x.places - 1; (m.First[0]|m.Last[0])&^all != 0 {
			t.Errorf("%s: places that there are none of: %v", x.why, m)
		}
	}
}

// P8.1: what is not right is ErrForm, also where it has too many places.
func TestWrong(t *testing.T) {
	a := api.Node{Kind: api.NSet}
	root := []api.Part{{}}
	full := lay(part{row(64, one('a')), false})
	refuse(t, "nothing", api.Tree{}, api.ErrForm)
	refuse(t, "no parts", api.Tree{Nodes: []api.Node{a}}, api.ErrForm)
	refuse(t, "no nodes", api.Tree{Parts: root}, api.ErrForm)
	refuse(t, "many parts", lay(slices.Repeat([]part{{empty(), false}}, 21)...), api.ErrForm)
	refuse(t, "many nodes", alone(chain(601, empty(), 0, -1)), api.ErrForm)
	refuse(t, "a node that is not used, many places", api.Tree{Nodes: append(full.Nodes, a), Parts: full.Parts}, api.ErrForm)
	for _, root := range []int{math.MinInt, -1, 1, math.MaxInt} {
		refuse(t, fmt.Sprint("the root ", root), api.Tree{Nodes: []api.Node{a}, Parts: []api.Part{{Root: root}}}, api.ErrForm)
	}
	for _, n := range []api.Node{
		{}, {Kind: 6}, {Kind: 255},
		{Kind: api.NEmpty}, {Kind: api.NSet}, {Kind: api.NSet, A: 1}, {Kind: api.NEmpty, Set: octets.All()},
		{Kind: api.NSeq}, {Kind: api.NAlt}, {Kind: api.NSeq, A: 0, B: 1}, {Kind: api.NAlt, A: 1, B: 0}, {Kind: api.NSeq, A: -1, B: 0},
		{Kind: api.NTimes, A: 1, Max: 1}, {Kind: api.NTimes, A: -1, Max: 1}, {Kind: api.NTimes, Min: -1, Max: 1}, {Kind: api.NTimes, Min: 2, Max: 1},
		{Kind: api.NTimes, Max: 10}, {Kind: api.NTimes, Max: -2}, {Kind: api.NTimes, Min: 2, Max: -1}, {Kind: api.NTimes, Min: math.MinInt, Max: math.MaxInt},
		{Kind: api.NTimes, B: 1, Max: 1}, {Kind: api.NTimes, Max: 1, Set: octets.Of(1)},
	} {
		refuse(t, fmt.Sprint("behind an NSet ", n), api.Tree{Nodes: []api.Node{a, n}, Parts: []api.Part{{Root: 1}}}, api.ErrForm)
	}
}

// R3, R4: the tree is not changed and not kept; what is answered is memory of its own, list by list.
func TestMemory(t *testing.T) {
	parts := []part{{times(seq(one('a'), times(one('b'), 0, 2)), 1, 2), true}, {alt(one('c'), empty()), false}}
	want := modelled(parts)
	y := lay(parts...)
	nodes := append(slices.Grow(slices.Clone(y.Nodes), 5), api.Node{Kind: 77, A: 5})
	y.Nodes = nodes[:len(nodes)-1]
	roots := append(slices.Grow(slices.Clone(y.Parts), 5), api.Part{Root: 88})
	y.Parts = roots[:len(roots)-1]
	nodesWere, rootsWere := slices.Clone(nodes[:cap(nodes)]), slices.Clone(roots[:cap(roots)])
	first, _ := spots.Of(y)
	second, _ := spots.Of(y)
	if !same(first, want) || !same(second, want) {
		t.Errorf("two answers: %v, %v; not %v", first, second, want)
	}
	if !slices.Equal(nodes[:cap(nodes)], nodesWere) || !slices.Equal(roots[:cap(roots)], rootsWere) {
		t.Errorf("the tree was changed: %v, %v", nodes, roots)
	}
	lists := [][]uint64{first.First, first.Last, first.Follow}
	for i, list := range lists {
		fill(list, uint64(100+i))
	}
	for i, list := range lists {
		for k, n := range list {
			if n != uint64(100+i) {
				t.Errorf("the list %d shares its element %d", i, k)
			}
		}
	}
	fill(first.Empty, true)
	fill(first.Not, false)
	fill(first.Sets, octets.All())
	if !slices.Equal(first.Empty, []bool{true, true}) {
		t.Errorf("Empty shares with Not: %v", first.Empty)
	}
	clear(nodes)
	clear(roots)
	if !same(second, want) {
		t.Errorf("the answer changed: %v, not %v", second, want)
	}
}

// fill fills a list and its spare room.
func fill[T any](list []T, with T) {
	list = list[:cap(list)]
	for i := range list {
		list[i] = with
	}
}
