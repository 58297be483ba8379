package cons_test

import (
	"fmt"
	"slices"
	"strings"
	"testing"

	"shibboleth/api"
	"shibboleth/classes"
	"shibboleth/cons"
	"shibboleth/octets"
	"shibboleth/rex"
	"shibboleth/spots"
	"shibboleth/tree"
)

// begin is the first state.
const begin = uint64(1) << 63

// read is the constraint of a text.
func read(t *testing.T, text string) *cons.Cons {
	t.Helper()
	c, at, e := cons.Read(text)
	if e != api.OK || at != 0 || c == nil {
		t.Fatalf("Read(%s): %v, %d, %d", text, c, at, e)
	}
	return c
}

// parsed is the tree of a text.
func parsed(t *testing.T, text string) api.Tree {
	t.Helper()
	y, _, e := rex.Parse(text)
	if e != api.OK {
		t.Fatalf("%s is no text", text)
	}
	return y
}

// parts are texts of constraints of one part, of which none says Not.
func parts() []string {
	return []string{
		"", "a", "b", ".", "[]", "[^]", "[ab]", "[^a]", "ab", "a|b", "a|", "ab|c", "(ab)*", "a{2,3}", "a{0}", "(a|b{2}){0}", "a?b?", "(a?){3}", "()*",
		"a+b*", "(a*b+)*", "(a|b)*a(a|b){2}", "[]|a", "a[]", "[]*", "[^b]+b.?", "(a.){0,2}b", "((a|b)(b|c))+", ".*ab.*", "a{9}|b{9}", "(ab?){1,4}", `\x00|\xff*`,
	}
}

// constraints are texts of constraints, one or more parts each.
func constraints() []string {
	all := []string{"&", "!&", "!!a&!!!b", "a*&!aa&.{2,4}", "!.*", "![]", "[]&!a", ".*a&b.*&!.*c.*", strings.Repeat("!a&", 19) + "!b", strings.Repeat("a", 63), "!(.{9}){7}"}
	for i, p := range parts() {
		next := parts()[(i+7)%len(parts())]
		all = append(all, p, "!"+p, p+"&"+next, p+"&!"+next, "!"+p+"&!"+next)
	}
	return all
}

// words are all words of these bytes with n bytes at most.
func words(n int, letters ...byte) []string {
	all, now := []string{""}, []string{""}
	for range n {
		var longer []string
		for _, w := range now {
			for _, c := range letters {
				longer = append(longer, w+string([]byte{c}))
			}
		}
		all, now = append(all, longer...), longer
	}
	return all
}

// chance is a row of numbers without a plan.
type chance uint64

// next is the next one.
func (c *chance) next() uint64 {
	*c = *c*6364136223846793005 + 1442695040888963407
	n := uint64(*c)
	return n ^ n>>29
}

// below is the next one from 0 to n-1.
func (c *chance) below(n int) int {
	return int(c.next() >> 33 % uint64(n))
}

// states are some to try: the first one, some that are near it, those of a place each, and some without a plan.
func states(plan *chance, places int) []uint64 {
	list := []uint64{begin, 0, begin | 1, begin | 2, begin | 1<<62, 1<<places - 1, ^uint64(0), ^begin, begin - 1<<places}
	for k := range 63 {
		list = append(list, 1<<k)
	}
	for range 20 {
		list = append(list, plan.next(), plan.next()&plan.next(), plan.next()&(1<<places-1))
	}
	return list
}

// model is what the chapter's words say, place by place.
type model spots.Made

// into tells whether the place k is one of those behind the byte b of q.
func (m model) into(k int, q uint64, b byte) bool {
	if !octets.Has(m.Sets[k], b) {
		return false
	}
	if q == begin {
		return slices.ContainsFunc(m.First, func(places uint64) bool { return places>>k&1 == 1 })
	}
	for from, places := range m.Follow {
		if q>>from&1 == 1 && places>>k&1 == 1 {
			return true
		}
	}
	return false
}

// next is the state behind the byte b of q.
func (m model) next(q uint64, b byte) uint64 {
	all := uint64(0)
	for k := range m.Sets {
		if m.into(k, q, b) {
			all += 1 << k
		}
	}
	return all
}

// good tells whether q is good.
func (m model) good(q uint64) bool {
	for i, not := range m.Not {
		none := true
		for k := range m.Sets {
			if q>>k&1 == 1 && m.Last[i]>>k&1 == 1 {
				none = false
			}
		}
		if q == begin {
			none = !m.Empty[i]
		}
		if none != not {
			return false
		}
	}
	return true
}

// modelled is the model of a tree.
func modelled(t *testing.T, y api.Tree) model {
	t.Helper()
	made, e := spots.Of(y)
	if e != api.OK {
		t.Fatalf("spots.Of(%v): %d", y, e)
	}
	return model(made)
}

// P9.2: the chapter's examples.
func TestExamples(t *testing.T) {
	c := read(t, "ab|c")
	if c.Next(c.Start(), 'a') != 1 || c.Next(1, 'b') != 2 || c.Next(1, 'a') != 0 || !c.Good(2) || c.Good(1) || !c.Match("c") {
		t.Errorf("ab|c")
	}
	c = read(t, "a*&!aa")
	if !c.Match("") || !c.Match("a") || c.Match("aa") || !c.Match("aaa") {
		t.Errorf("a*&!aa")
	}
	c = read(t, "!.")
	if !c.Match("") || c.Match("x") || !c.Match("xx") || c.Next(c.Start(), 'a') != 1 {
		t.Errorf("!.")
	}
}

// P9.2: states, written down.
func TestStates(t *testing.T) {
	for _, x := range []struct {
		text string
		from uint64
		b    byte
		to   uint64
		good bool // whether to is
	}{
		{"", begin, 'a', 0, false},
		{"!", begin, 'a', 0, true},
		{"ab|c", begin, 'b', 0, false},
		{"ab|c", begin, 'c', 4, true},
		{"ab|c", 7, 'b', 2, true},
		{"ab|c", 0, 'a', 0, false},
		{"ab|c", begin | 1, 'b', 2, true},
		{"ab|c", begin | 1, 'a', 0, false},
		{"ab|c", begin | 8, 'a', 0, false},
		{"ab|c", 8, 'b', 0, false},
		{"ab|c", 1 << 40, 'b', 0, false},
		{"ab|c", begin - 1, 'b', 2, true},
		{"a*&!aa", begin, 'a', 3, true},
		{"a*&!aa", 3, 'a', 5, false},
		{"a*&!aa", 5, 'a', 1, true},
		{"a*&!aa", 4, 'a', 0, false},
		{"!.", 1, 'a', 0, true},
		{"!.", 0, 'a', 0, true},
		{"(a?){3}", begin, 'a', 7, true},
		{"(a?){3}", 7, 'a', 6, true},
		{"(a?){3}", 6, 'a', 4, true},
		{"(a?){3}", 4, 'a', 0, false},
		{`[^a]|[\x00\xff]`, begin, 0, 3, true},
		{`[^a]|[\x00\xff]`, begin, 0xff, 3, true},
		{`[^a]|[\x00\xff]`, begin, 0xfe, 1, true},
		{strings.Repeat("a", 63), 1 << 61, 'a', 1 << 62, true},
		{strings.Repeat("a", 63), begin | 1<<61, 'a', 1 << 62, true},
		{strings.Repeat("a", 63), 1 << 62, 'a', 0, false},
		{strings.Repeat("a", 63), ^uint64(0), 'a', begin - 2, true},
		{"(a{9}){0,7}", begin, 'a', 0x40201008040201, false},
		{"a&b", begin, 'a', 1, false},
		{"a&a", begin, 'a', 3, true},
	} {
		c := read(t, x.text)
		if got := c.Next(x.from, x.b); got != x.to || c.Good(got) != x.good {
			t.Errorf("%s: Next(%x, %q): %x, good %v; not %x, %v", x.text, x.from, x.b, got, c.Good(got), x.to, x.good)
		}
	}
}

// P9.2: which states are good, written down: the first one by what is Empty, others by Last.
func TestGood(t *testing.T) {
	for _, x := range []struct {
		text string
		q    uint64
		good bool
	}{
		{"", begin, true}, {"", 0, false}, {"", begin | 1, false}, {"!", begin, false}, {"!", 0, true}, {"!", begin | 1, true},
		{"a", begin, false}, {"a", 1, true}, {"a", 3, true}, {"a", 2, false}, {"a", begin | 1, true}, {"a", begin | 2, false},
		{"!a", begin, true}, {"!a", 1, false}, {"!a", 2, true}, {"!a", begin | 1, false}, {"!a", begin | 2, true}, {"!a", 0, true},
		{"a*", begin, true}, {"a*", begin | 2, false}, {"!a*", begin, false}, {"!a*", begin | 2, true},
		{"a&b", 1, false}, {"a&b", 2, false}, {"a&b", 3, true}, {"a&b", begin, false}, {"a*&b", begin, false}, {"a*&b*", begin, true},
		{"a&!b", 1, true}, {"a&!b", 2, false}, {"a&!b", 3, false}, {"a&!b", 0, false}, {"a*&!b", begin, true}, {"a&!b*", begin, false},
		{"!a&!b", 0, true}, {"!a&!b", 1, false}, {"!a&!b", 2, false}, {"!a&!b", begin, true}, {"!a&!!b", 2, true},
		{"&a", begin, false}, {"&a*", begin, true}, {"&a*", 1, false}, {"a{2,3}", 1, false}, {"a{2,3}", 2, true}, {"a{2,3}", 4, true},
		{strings.Repeat("a", 63), 1 << 62, true}, {strings.Repeat("a", 63), begin | 1<<62, true}, {strings.Repeat("a", 63), begin, false}, {strings.Repeat("a", 63), begin | 1<<61, false},
	} {
		if got := read(t, x.text).Good(x.q); got != x.good {
			t.Errorf("%s: Good(%x): %v", x.text, x.q, got)
		}
	}
}

// P9.1, P9.2: all of it against the chapter's words, of any states and bytes.
func TestModel(t *testing.T) {
	plan := chance(1)
	for _, text := range constraints() {
		y := parsed(t, text)
		m := modelled(t, y)
		c, e := cons.New(y)
		if e != api.OK {
			t.Fatalf("New of %s: %d", text, e)
		}
		if c.Start() != begin || c.Places() != len(m.Sets) || !slices.Equal(c.Sets(), m.Sets) {
			t.Errorf("%s: Start %x, Places %d, Sets %v", text, c.Start(), c.Places(), c.Sets())
		}
		for _, q := range states(&plan, len(m.Sets)) {
			if c.Good(q) != m.good(q) {
				t.Fatalf("%s: Good(%x): %v", text, q, c.Good(q))
			}
			for _, b := range []byte{0, 'a', 'b', 'c', 0xff, byte(plan.next())} {
				if got, want := c.Next(q, b), m.next(q, b); got != want {
					t.Fatalf("%s: Next(%x, %q): %x, not %x", text, q, b, got, want)
				}
			}
		}
	}
}

// P9.2: Match is Good of where Next leads, byte by byte, from Start.
func TestMatchGoes(t *testing.T) {
	for _, text := range constraints() {
		c := read(t, text)
		for _, w := range words(5, 'a', 'b', 'c') {
			q := c.Start()
			for i := range len(w) {
				q = c.Next(q, w[i])
				if q >= begin {
					t.Fatalf("%s: the state %x behind %s", text, q, w[:i+1])
				}
			}
			if c.Match(w) != c.Good(q) {
				t.Fatalf("%s: Match(%s): %v", text, w, c.Match(w))
			}
		}
	}
}

// P9.2: the Sets stand in the places' row, and Places counts them.
func TestSets(t *testing.T) {
	c := read(t, `a.(b[^\x00-\xfe][]){2}&!c{0}d+`)
	last := octets.Of(255)
	want := []api.Set{octets.Of('a'), octets.All(), octets.Of('b'), last, {}, octets.Of('b'), last, {}, octets.Of('d')}
	if got := c.Sets(); !slices.Equal(got, want) || c.Places() != len(want) {
		t.Errorf("Sets: %v, %d", got, c.Places())
	}
	c = read(t, "()&!a{0}")
	if got := c.Sets(); len(got) != 0 || c.Places() != 0 {
		t.Errorf("Sets of no places: %v, %d", got, c.Places())
	}
}

// P9.2: of a nil one.
func TestNil(t *testing.T) {
	var c *cons.Cons
	if c.Start() != 0 || c.Places() != 0 || len(c.Sets()) != 0 {
		t.Errorf("Start %x, Places %d, Sets %v", c.Start(), c.Places(), c.Sets())
	}
	for _, q := range []uint64{0, 1, begin, ^uint64(0)} {
		if c.Next(q, 'a') != 0 || c.Next(q, 0) != 0 || c.Good(q) {
			t.Errorf("Next(%x, a): %x; Good: %v", q, c.Next(q, 'a'), c.Good(q))
		}
	}
	for _, w := range []string{"", "a", "\x00"} {
		if c.Match(w) {
			t.Errorf("Match(%q)", w)
		}
	}
}

// R1: one that was not made of a tree does not panic.
func TestUnmade(t *testing.T) {
	c := new(cons.Cons)
	for _, q := range []uint64{0, 1, begin, ^uint64(0)} {
		c.Good(q)
		if got := c.Next(q, 'a'); got != 0 {
			t.Errorf("Next(%x, a): %x", q, got)
		}
	}
	c.Start()
	c.Match("ab")
	if len(c.Sets()) != 0 || c.Places() != 0 {
		t.Errorf("%v, %d", c.Sets(), c.Places())
	}
}

// chain is a tree of many letters side by side.
func chain(many int) api.Tree {
	y := api.Tree{Nodes: []api.Node{{Kind: api.NSet}}}
	for k := range many - 1 {
		y.Nodes = append(y.Nodes, api.Node{Kind: api.NSet}, api.Node{Kind: api.NSeq, A: 2 * k, B: 2*k + 1})
	}
	y.Parts = []api.Part{{Root: len(y.Nodes) - 1}}
	return y
}

// P9.1: New tells what spots.Of does.
func TestNewWrong(t *testing.T) {
	a := api.Node{Kind: api.NSet}
	one := []api.Node{a}
	loose := chain(64)
	loose.Nodes = append(loose.Nodes, a)
	many := api.Tree{}
	for i := range 21 {
		many.Nodes = append(many.Nodes, a)
		many.Parts = append(many.Parts, api.Part{Root: i})
	}
	for _, x := range []struct {
		why  string
		y    api.Tree
		want api.Errno
	}{
		{"no tree", api.Tree{}, api.ErrForm},
		{"no parts", api.Tree{Nodes: one}, api.ErrForm},
		{"no nodes", api.Tree{Parts: []api.Part{{}}}, api.ErrForm},
		{"a root that is none", api.Tree{Nodes: one, Parts: []api.Part{{Root: 1}}}, api.ErrForm},
		{"a root below 0", api.Tree{Nodes: one, Parts: []api.Part{{Root: -1}}}, api.ErrForm},
		{"a root twice", api.Tree{Nodes: one, Parts: []api.Part{{}, {}}}, api.ErrForm},
		{"a kind that is none", api.Tree{Nodes: []api.Node{{Kind: 9}}, Parts: []api.Part{{}}}, api.ErrForm},
		{"a node below itself", api.Tree{Nodes: []api.Node{{Kind: api.NTimes, Max: 1}}, Parts: []api.Part{{}}}, api.ErrForm},
		{"more than 9 times", api.Tree{Nodes: []api.Node{a, {Kind: api.NTimes, Max: 10}}, Parts: []api.Part{{Root: 1}}}, api.ErrForm},
		{"21 parts", many, api.ErrForm},
		{"more places than there is room for, and a node that is loose", loose, api.ErrForm},
		{"64 places", chain(64), api.ErrLong},
		{"300 places", chain(300), api.ErrLong},
		{"more than 600 nodes", chain(301), api.ErrForm},
	} {
		c, e := cons.New(x.y)
		if c != nil || e != x.want {
			t.Errorf("%s: %v, %d", x.why, c, e)
		}
		if _, of := spots.Of(x.y); of != x.want {
			t.Errorf("%s: spots.Of says %d", x.why, of)
		}
	}
	if c, e := cons.New(chain(63)); e != api.OK || c.Places() != 63 {
		t.Errorf("63 places: %d", e)
	}
}

// P9.1: Read tells the place and the error that rex.Parse does.
func TestReadWrong(t *testing.T) {
	for _, x := range []struct {
		text string
		at   int
		want api.Errno
	}{
		{"a**", 2, api.ErrForm}, {"(", 1, api.ErrForm}, {"a|*", 2, api.ErrForm}, {"a)", 1, api.ErrForm}, {"[z-a]", 3, api.ErrForm}, {"a{2,1}", 4, api.ErrForm},
		{`a\q`, 1, api.ErrForm}, {"!a!b", 2, api.ErrForm}, {"*", 0, api.ErrForm}, {"[", 1, api.ErrForm}, {`\`, 0, api.ErrForm},
		{strings.Repeat("a", 201), 200, api.ErrLong}, {strings.Repeat("*", 201), 200, api.ErrLong}, {strings.Repeat("a{9}", 8), 32, api.ErrLong},
		{strings.Repeat("(", 17), 16, api.ErrLong}, {strings.Repeat("&", 20), 19, api.ErrLong}, {strings.Repeat("a", 64), 64, api.ErrLong},
	} {
		if c, at, e := cons.Read(x.text); c != nil || at != x.at || e != x.want {
			t.Errorf("Read(%s): %v, %d, %d", x.text, c, at, e)
		}
	}
	some := []byte(`a!&|*{2,1}()[-]\`)
	for _, text := range words(4, some...) {
		_, at, e := rex.Parse(text)
		c, to, f := cons.Read(text)
		if to != at || f != e || (c == nil) != (e != api.OK) {
			t.Fatalf("Read(%s): %v, %d, %d; rex.Parse: %d, %d", text, c, to, f, at, e)
		}
	}
}

// P9.1: Read is New of what rex.Parse reads.
func TestReadIsNew(t *testing.T) {
	for _, text := range constraints() {
		c := read(t, text)
		d, e := cons.New(parsed(t, text))
		if e != api.OK || !slices.Equal(c.Sets(), d.Sets()) {
			t.Fatalf("New of %s: %d", text, e)
		}
		for _, w := range words(4, 'a', 'b', 'c') {
			if c.Match(w) != d.Match(w) {
				t.Fatalf("%s: Match(%s): %v and %v", text, w, c.Match(w), d.Match(w))
			}
		}
	}
}

// ends is the model of a node's words: where in w a word of the node k may end that begins at one of from; each bit is a place in w.
func ends(y api.Tree, k int, w string, from uint64) uint64 {
	n := y.Nodes[k]
	switch n.Kind {
	case api.NSet:
		to := uint64(0)
		for i := range len(w) {
			if from>>i&1 == 1 && octets.Has(n.Set, w[i]) {
				to |= 2 << i
			}
		}
		return to
	case api.NSeq:
		return ends(y, n.B, w, ends(y, n.A, w, from))
	case api.NAlt:
		return ends(y, n.A, w, from) | ends(y, n.B, w, from)
	case api.NTimes:
		most := n.Max
		if most == -1 {
			// More often than there are bytes, and Min, is no use.
			most = len(w) + 1
		}
		all := uint64(0)
		for i := range most + 1 {
			if i >= n.Min {
				all |= from
			}
			from = ends(y, n.A, w, from)
		}
		return all
	}
	return from
}

// has tells whether w is one of the constraint's words, as the chapters 6 and 9 say them.
func has(y api.Tree, w string) bool {
	for _, p := range y.Parts {
		if ends(y, p.Root, w, 1)>>len(w)&1 == 1 == p.Not {
			return false
		}
	}
	return true
}

// matches holds Match against the model.
func matches(t *testing.T, y api.Tree, tried []string) {
	t.Helper()
	c, e := cons.New(y)
	if e != api.OK {
		t.Fatalf("New of %s: %d", tree.Print(y), e)
	}
	for _, w := range tried {
		if got, want := c.Match(w), has(y, w); got != want {
			t.Fatalf("%s: Match(%q): %v", tree.Print(y), w, got)
		}
	}
}

// P9.3: Match tells just the words, of constraints written down.
func TestWords(t *testing.T) {
	tried := slices.Concat(words(6, 'a', 'b', 'c'), words(3, 0, 'a', '/', 0x80, 0xff))
	for _, text := range constraints() {
		matches(t, parsed(t, text), tried)
	}
}

// grow adds a node without a plan to y, with what stands below it, and is its number.
func (c *chance) grow(y *api.Tree, most int) int {
	n := api.Node{Kind: api.NEmpty}
	kind := c.below(9)
	switch {
	case most < 2 || kind == 0:
		if c.below(6) > 0 {
			n = api.Node{Kind: api.NSet, Set: octets.And(octets.Of('a', 'b', 'c', 0), api.Set{c.next(), c.next()})}
		}
	case most < 3 || kind < 3:
		n = api.Node{Kind: api.NTimes, A: c.grow(y, most-1), Min: c.below(2), Max: -1}
		if c.below(2) == 0 {
			n.Min = c.below(4)
			n.Max = n.Min + c.below(3)
		}
	default:
		ahead := 1 + c.below(most-2)
		n = api.Node{Kind: api.NSeq, A: c.grow(y, ahead), B: c.grow(y, most-1-ahead)}
		if kind < 6 {
			n.Kind = api.NAlt
		}
	}
	y.Nodes = append(y.Nodes, n)
	return len(y.Nodes) - 1
}

// tree is one without a plan.
func (c *chance) tree() api.Tree {
	var y api.Tree
	for range 1 + c.below(3) {
		y.Parts = append(y.Parts, api.Part{Root: c.grow(&y, 1+c.below(12)), Not: c.below(2) == 0})
	}
	return y
}

// P9.3: Match tells just the words, of trees without a plan; what is printed of them has the same words.
func TestWithoutPlan(t *testing.T) {
	plan := chance(2)
	tried := words(5, 'a', 'b', 0)
	right := 0
	for range 3000 {
		y := plan.tree()
		if tree.Places(y) > api.MaxPlaces {
			continue
		}
		right++
		matches(t, y, tried)
		text := tree.Print(y)
		c, _, e := cons.Read(text)
		if e == api.ErrLong {
			continue
		}
		for _, w := range words(3, 'a', 'b', 0) {
			if c.Match(w) != has(y, w) {
				t.Fatalf("%s, read: Match(%q): %v", text, w, c.Match(w))
			}
		}
	}
	// Else the trees would not be worth trying.
	if right < 2000 {
		t.Errorf("%d trees that are not too long", right)
	}
}

// P9.3: bytes that the Sets do not tell apart lead alike from each state that there is, and so words of them are told alike.
func TestAlike(t *testing.T) {
	for _, text := range constraints() {
		c := read(t, text)
		alike := classes.Refine(c.Sets()...)
		reached := []uint64{c.Start()}
		for i := 0; i < len(reached) && i < 200; i++ {
			behind := map[uint8]uint64{}
			for b := range 256 {
				class, next := alike.Of[b], c.Next(reached[i], byte(b))
				if was, ok := behind[class]; ok && was != next {
					t.Fatalf("%s: Next(%x, %q): %x, not %x", text, reached[i], byte(b), next, was)
				}
				behind[class] = next
				if !slices.Contains(reached, next) {
					reached = append(reached, next)
				}
			}
		}
	}
	c := read(t, "!(a[b-d]|[^a-d])*&.{2,4}")
	for _, w := range words(4, 'a', 'b', 'x') {
		other := strings.NewReplacer("b", "d", "x", "\x80").Replace(w)
		if c.Match(w) != c.Match(other) {
			t.Errorf("Match(%q): %v, Match(%q): %v", w, c.Match(w), other, c.Match(other))
		}
	}
}

// P9.3: a part more has the words that both have; ! ahead of one part the others.
func TestParts(t *testing.T) {
	tried := words(4, 'a', 'b', 'c')
	for _, p := range parts() {
		c, not, twice := read(t, p), read(t, "!"+p), read(t, "!!"+p)
		for _, w := range tried {
			if c.Match(w) == not.Match(w) || c.Match(w) != twice.Match(w) {
				t.Fatalf("%s: Match(%s): %v, with ! %v, with !! %v", p, w, c.Match(w), not.Match(w), twice.Match(w))
			}
		}
		for _, q := range parts() {
			if len(p)+len(q) > 20 {
				continue
			}
			for _, ahead := range []string{"", "!"} {
				other := read(t, ahead+q)
				both := read(t, p+"&"+ahead+q)
				for _, w := range tried {
					if both.Match(w) != (c.Match(w) && other.Match(w)) {
						t.Fatalf("%s&%s%s: Match(%s): %v", p, ahead, q, w, both.Match(w))
					}
				}
			}
		}
	}
}

// P9.2, R4: the Sets are memory of its own, each time.
func TestSetsMemory(t *testing.T) {
	c := read(t, "ab|c")
	want := []api.Set{octets.Of('a'), octets.Of('b'), octets.Of('c')}
	first, second := c.Sets(), c.Sets()
	first = first[:cap(first)]
	for i := range first {
		first[i] = octets.All()
	}
	if !slices.Equal(second, want) || !slices.Equal(c.Sets(), want) || c.Places() != 3 {
		t.Errorf("Sets: %v, %v", second, c.Sets())
	}
	if c.Match("xx") || !c.Match("ab") || c.Next(begin, 'x') != 0 {
		t.Errorf("the constraint was changed")
	}
}

// R4: the tree is not changed and not kept.
func TestTreeMemory(t *testing.T) {
	y := parsed(t, "(ab){1,2}&!c*")
	nodes := append(slices.Grow(slices.Clone(y.Nodes), 5), api.Node{Kind: 77, A: 5})
	y.Nodes = nodes[:len(nodes)-1]
	roots := append(slices.Grow(slices.Clone(y.Parts), 5), api.Part{Root: 88})
	y.Parts = roots[:len(roots)-1]
	nodesWere, rootsWere := slices.Clone(nodes[:cap(nodes)]), slices.Clone(roots[:cap(roots)])
	c, e := cons.New(y)
	if e != api.OK || !slices.Equal(nodes[:cap(nodes)], nodesWere) || !slices.Equal(roots[:cap(roots)], rootsWere) {
		t.Errorf("the tree was changed: %v, %v, %d", nodes, roots, e)
	}
	clear(nodes)
	clear(roots)
	if !c.Match("abab") || !c.Match("ab") || c.Match("") || c.Match("c") || c.Places() != 5 || c.Sets()[0] != octets.Of('a') {
		t.Errorf("the tree was kept")
	}
}

// R3: what is told hangs on no earlier call, and on no other constraint.
func TestAgain(t *testing.T) {
	c, other := read(t, "(ab)*&!abab"), read(t, "b*")
	tell := func() string {
		told := fmt.Sprint(c.Start(), c.Places(), c.Sets())
		for _, w := range words(4, 'a', 'b') {
			told += fmt.Sprint(c.Match(w), c.Next(uint64(len(told)), 'a'), c.Good(uint64(len(w))))
		}
		return told
	}
	first := tell()
	other.Match("bbb")
	read(t, "a{9}").Match("aaa")
	if tell() != first {
		t.Errorf("told otherwise the second time")
	}
	if !other.Match("bb") || other.Match("ab") {
		t.Errorf("the other one's words")
	}
}

// P9.2: words are gone through byte by byte, also where bytes together are a letter of UTF-8.
func TestBytes(t *testing.T) {
	for _, x := range []struct {
		text, word string
		want       bool
	}{
		{`\xc3\xa9`, "\u00e9", true}, {`[\xa9\xc3]{2}`, "\u00e9", true}, {"..", "\u00e9", true}, {".", "\u00e9", false}, {`\xc3`, "\u00e9", false}, {`!\xc3.*`, "\u00e9", false},
		{"\u00e9", "\u00e9", true}, {"[\u00e9]", "\u00e9", false}, {"[\u00e9]", "\xa9", true}, {".{4}", "\U0001f600", true}, {`\xf0(.\x98)?\x9f?.*`, "\U0001f600", true},
		{".{3}", "\ufffd", true}, {`\xef\xbf\xbd`, "\xff", false}, {`.*\x80`, "a\u20ac\x80", true}, {".{5}", "a\u20ac\x80", true},
	} {
		if got := read(t, x.text).Match(x.word); got != x.want {
			t.Errorf("%q: Match(%q): %v", x.text, x.word, got)
		}
	}
}

// P9.2, P9.3: words of many bytes.
func TestLong(t *testing.T) {
	many := 1 << 20
	a := strings.Repeat("a", many)
	for _, x := range []struct {
		text, word string
		want       bool
	}{
		{"a*", a, true}, {"a*", a + "b", false}, {"!a*", a + "b", true}, {"(aa)*", a, true}, {"(aa)*", a + "a", false}, {"(aa)*&!(aaa)*", a, true},
		{"a{9}", a, false}, {"!a{9}", a, true}, {".*b.{9}", a + "b" + a[:9], true}, {".*b.{9}", a + "b" + a[:8], false},
		{"(.{9}){7}", a[:63], true}, {"(.{9}){7}", a[:62], false}, {"(.{9}){7}", a[:64], false}, {"!(.{9}){7}", a[:64], true},
	} {
		if got := read(t, x.text).Match(x.word); got != x.want {
			t.Errorf("%s: Match of %d bytes: %v", x.text, len(x.word), got)
		}
	}
}
