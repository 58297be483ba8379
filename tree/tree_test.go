package tree_test

import (
	"fmt"
	"math"
	"math/big"
	"slices"
	"strings"
	"testing"

	"shibboleth/api"
	"shibboleth/octets"
	"shibboleth/tree"
)

// plant is a node with what stands below it, so that a tree can be written down without numbers.
type plant struct {
	node  api.Node
	below []plant
}

func empty() plant         { return plant{node: api.Node{Kind: api.NEmpty}} }
func set(s api.Set) plant  { return plant{node: api.Node{Kind: api.NSet, Set: s}} }
func one(c byte) plant     { return set(octets.Of(c)) }
func seq(a, b plant) plant { return plant{api.Node{Kind: api.NSeq}, []plant{a, b}} }
func alt(a, b plant) plant { return plant{api.Node{Kind: api.NAlt}, []plant{a, b}} }
func star(a plant) plant   { return times(a, 0, -1) }
func times(a plant, least, most int) plant {
	return plant{api.Node{Kind: api.NTimes, Min: least, Max: most}, []plant{a}}
}

// part is a part of a tree.
type part struct {
	root plant
	not  bool
}

// lay lays the parts into an api.Tree, its nodes numbered as they end.
func lay(parts ...part) api.Tree {
	return layBy([]int{0, 1}, parts)
}

// layBy is lay, what stands below a node taken in this order.
func layBy(order []int, parts []part) api.Tree {
	var t api.Tree
	var put func(p plant) int
	put = func(p plant) int {
		n := p.node
		for _, k := range order {
			switch {
			case k >= len(p.below):
			case k == 0:
				n.A = put(p.below[0])
			default:
				n.B = put(p.below[1])
			}
		}
		t.Nodes = append(t.Nodes, n)
		return len(t.Nodes) - 1
	}
	for _, p := range parts {
		t.Parts = append(t.Parts, api.Part{Root: put(p.root), Not: p.not})
	}
	return t
}

// layLast is lay, the parts' nodes and what stands below a node numbered from the last one on.
func layLast(parts ...part) api.Tree {
	turned := slices.Clone(parts)
	slices.Reverse(turned)
	t := layBy([]int{1, 0}, turned)
	slices.Reverse(t.Parts)
	return t
}

// layFlat is lay, the nodes that stand high numbered behind all those that stand lower.
func layFlat(parts ...part) api.Tree {
	var row []plant
	for _, p := range parts {
		row = append(row, p.root)
	}
	// What stands below the plant i begins in the row at under[i].
	var under []int
	for i := 0; i < len(row); i++ {
		under = append(under, len(row))
		row = append(row, row[i].below...)
	}
	var t api.Tree
	last := len(row) - 1
	for i := last; i >= 0; i-- {
		n := row[i].node
		if len(row[i].below) > 0 {
			n.A = last - under[i]
		}
		if len(row[i].below) > 1 {
			n.B = last - under[i] - 1
		}
		t.Nodes = append(t.Nodes, n)
	}
	for i, p := range parts {
		t.Parts = append(t.Parts, api.Part{Root: last - i, Not: p.not})
	}
	return t
}

// alone is a tree of one part that does not say Not.
func alone(p plant) api.Tree {
	return lay(part{p, false})
}

// name tells a plant from all that are not alike.
func name(p plant) string {
	said := fmt.Sprint("<", p.node.Kind, p.node.Set, p.node.Min, p.node.Max)
	for _, b := range p.below {
		said += name(b)
	}
	return said + ">"
}

// names tells parts from all that are not alike.
func names(parts []part) string {
	said := ""
	for _, p := range parts {
		said += fmt.Sprint(p.not, name(p.root))
	}
	return said
}

// binds is how tightly a plant's print holds together.
func binds(p plant) int {
	switch p.node.Kind {
	case api.NAlt:
		return 0
	case api.NSeq:
		return 1
	case api.NTimes:
		return 2
	}
	return 3
}

// said is the print of a plant, by the chapter's words, in ( ) if it binds less than is needed.
func said(p plant, needed int) string {
	if binds(p) < needed {
		return "(" + said(p, 0) + ")"
	}
	switch p.node.Kind {
	case api.NEmpty:
		return "()"
	case api.NSet:
		return saidSet(p.node.Set)
	case api.NSeq:
		return said(p.below[0], 1) + said(p.below[1], 2)
	case api.NAlt:
		return said(p.below[0], 0) + "|" + said(p.below[1], 1)
	}
	often := fmt.Sprintf("{%d,%d}", p.node.Min, p.node.Max)
	if p.node.Min == p.node.Max {
		often = fmt.Sprintf("{%d}", p.node.Min)
	}
	switch [2]int{p.node.Min, p.node.Max} {
	case [2]int{0, -1}:
		often = "*"
	case [2]int{1, -1}:
		often = "+"
	case [2]int{0, 1}:
		often = "?"
	}
	return said(p.below[0], 3) + often
}

// saidParts is the print of parts.
func saidParts(parts []part) string {
	var list []string
	for _, p := range parts {
		if p.not {
			list = append(list, "!"+said(p.root, 0))
		} else {
			list = append(list, said(p.root, 0))
		}
	}
	return strings.Join(list, "&")
}

// in says by the chapter of sets whether c is in s; no number that is no byte is.
func in(s api.Set, c int) bool {
	return c >= 0 && c < 256 && s[c/64]>>(c%64)&1 == 1
}

// saidByte is a byte's print, where these ones stand behind a backslash.
func saidByte(c int, behind string) string {
	if strings.Contains(behind, string(rune(c))) {
		return `\` + string(rune(c))
	}
	if c <= 0x20 || c >= 0x7f {
		return fmt.Sprintf(`\x%02x`, c)
	}
	return string(rune(c))
}

// saidSet is a set's print.
func saidSet(s api.Set) string {
	inside, many, last := "", 0, 0
	for c := range 256 {
		if !in(s, c) {
			continue
		}
		many++
		last = c
		switch ahead, behind := in(s, c-1), in(s, c+1); {
		case ahead && behind && in(s, c-2):
		case ahead && behind:
			inside += "-"
		default:
			inside += saidByte(c, `\]^-`)
		}
	}
	// The - of a run stands where its second byte is: behind its first one, ahead of its last.
	switch many {
	case 1:
		return saidByte(last, `&!|*+?{}[]().\`)
	case 256:
		return "."
	}
	return "[" + inside + "]"
}

// count is how many places the plant has, by numbers of any size.
func count(p plant) *big.Int {
	n := new(big.Int)
	for _, b := range p.below {
		n.Add(n, count(b))
	}
	switch {
	case p.node.Kind == api.NSet:
		n.SetInt64(1)
	case p.node.Kind == api.NTimes && p.node.Max >= 0:
		n.Mul(n, big.NewInt(int64(p.node.Max)))
	}
	return n
}

// countParts is how many places the parts have, but at most 2^30.
func countParts(parts []part) int {
	n := new(big.Int)
	for _, p := range parts {
		n.Add(n, count(p.root))
	}
	if n.BitLen() > 30 {
		return 1 << 30
	}
	return int(n.Int64())
}

// deep is how many nodes of the plant stand one below the other.
func deep(p plant) int {
	n := 0
	for _, b := range p.below {
		n = max(n, deep(b))
	}
	return n + 1
}

// deepParts is how many nodes of the parts stand one below the other.
func deepParts(parts []part) int {
	n := 0
	for _, p := range parts {
		n = max(n, deep(p.root))
	}
	return n
}

// holds holds parts, laid in several ways, against the chapter's words.
func holds(t *testing.T, parts []part) {
	t.Helper()
	for i, y := range []api.Tree{lay(parts...), layLast(parts...), layFlat(parts...)} {
		if !tree.Right(y) {
			t.Fatalf("Right of %s, laid in the way %d: false", saidParts(parts), i)
		}
		if got, want := tree.Print(y), saidParts(parts); got != want {
			t.Fatalf("Print, laid in the way %d: %s, not %s", i, got, want)
		}
		if got, want := tree.Places(y), countParts(parts); got != want {
			t.Fatalf("Places of %s, laid in the way %d: %d, not %d", saidParts(parts), i, got, want)
		}
		if got, want := tree.Depth(y), deepParts(parts); got != want {
			t.Fatalf("Depth of %s, laid in the way %d: %d, not %d", saidParts(parts), i, got, want)
		}
	}
}

// refused tells whether a tree is not right, and nothing is told of it.
func refused(y api.Tree) bool {
	return !tree.Right(y) && tree.Print(y) == "" && tree.Places(y) == 0 && tree.Depth(y) == 0
}

// chance is a row of numbers without a plan.
type chance uint64

// below is the next one, from 0 to n-1.
func (c *chance) below(n int) int {
	*c = *c*6364136223846793005 + 1442695040888963407
	return int(uint64(*c) >> 33 % uint64(n))
}

// set is a set without a plan: a few bytes, a few runs, or any.
func (c *chance) set() api.Set {
	const odd = "\\]^-[&!|*+?{}().,axfAZ09~ \x00\x1f\x20\x21\x7e\x7f\x80\xff"
	var s api.Set
	switch c.below(4) {
	case 0:
		return octets.Of(odd[c.below(len(odd))])
	case 1:
		for range c.below(6) {
			s = octets.Or(s, octets.Of(odd[c.below(len(odd))]))
		}
	case 2:
		for range c.below(5) {
			from := c.below(256)
			s = octets.Or(s, octets.Range(byte(from), byte(min(255, from+c.below(5)))))
		}
	case 3:
		for i := range s {
			s[i] = uint64(c.below(1<<31))<<33 ^ uint64(c.below(1<<31))
		}
	}
	if c.below(8) == 0 {
		return octets.Not(s)
	}
	return s
}

// plant is one without a plan, with at most so many nodes.
func (c *chance) plant(most int) plant {
	kind := c.below(10)
	switch {
	case most < 2 || kind == 0:
		if c.below(6) == 0 {
			return empty()
		}
		return set(c.set())
	case most < 3 || kind < 4:
		least, up := c.below(10), -1
		if c.below(3) == 0 {
			least = c.below(2)
		} else {
			up = least + c.below(10-least)
		}
		return times(c.plant(most-1), least, up)
	}
	ahead := 1 + c.below(most-2)
	if kind < 7 {
		return seq(c.plant(ahead), c.plant(most-1-ahead))
	}
	return alt(c.plant(ahead), c.plant(most-1-ahead))
}

// parts are some without a plan.
func (c *chance) parts() []part {
	list := make([]part, 1+c.below(4))
	if c.below(10) == 0 {
		list = make([]part, 20)
	}
	for i := range list {
		list[i] = part{c.plant(1 + c.below(25)), c.below(3) == 0}
	}
	return list
}

// small are all plants of n nodes at most, with few leaves and few ways of saying how often.
func small(n int) []plant {
	sized := make([][]plant, n+1)
	sized[1] = []plant{empty(), one('a'), one('|'), set(octets.All())}
	for size := 2; size <= n; size++ {
		for _, p := range sized[size-1] {
			sized[size] = append(sized[size], star(p), times(p, 0, 1), times(p, 2, 2), times(p, 0, 3))
		}
		for ahead := 1; ahead < size-1; ahead++ {
			for _, a := range sized[ahead] {
				for _, b := range sized[size-1-ahead] {
					sized[size] = append(sized[size], seq(a, b), alt(a, b))
				}
			}
		}
	}
	return slices.Concat(sized...)
}

// counted is a plant with n places.
func counted(n int) plant {
	switch {
	case n < 1:
		return empty()
	case n == 1:
		return one('a')
	case n%2 == 1:
		return seq(counted(n-1), one('b'))
	}
	return times(counted(n/2), 0, 2)
}

// chain is a plant of n nodes, each the one thing below the next.
func chain(n int, leaf plant, least, most int) plant {
	p := leaf
	for range n - 1 {
		p = times(p, least, most)
	}
	return p
}

// numbers are numbers of all kinds.
func numbers() []int {
	return []int{math.MinInt, math.MinInt + 1, -1 << 32, -3, -2, -1, 0, 1, 2, 3, 4, 5, 6, 7, 8, 9, 10, 11, 20, 256, 599, 600, 1 << 32, math.MaxInt - 1, math.MaxInt}
}

// may is whether a tree is right, by the chapter's words.
func may(t api.Tree) bool {
	if len(t.Parts) == 0 || len(t.Parts) > 20 || len(t.Nodes) > 600 {
		return false
	}
	uses := map[int]int{}
	for i, n := range t.Nodes {
		a := n.Kind == api.NSeq || n.Kind == api.NAlt || n.Kind == api.NTimes
		b := n.Kind == api.NSeq || n.Kind == api.NAlt
		often := n.Kind == api.NTimes
		switch {
		case n.Kind < 1 || n.Kind > 5,
			n.Kind != api.NSet && n.Set != api.Set{},
			!a && n.A != 0,
			!b && n.B != 0,
			!often && (n.Min != 0 || n.Max != 0),
			a && n.A >= i,
			b && n.B >= i,
			often && (n.Min < 0 || n.Min > 9),
			often && n.Max == -1 && n.Min > 1,
			often && n.Max != -1 && (n.Max < n.Min || n.Max > 9):
			return false
		}
		if a {
			uses[n.A]++
		}
		if b {
			uses[n.B]++
		}
	}
	for _, p := range t.Parts {
		uses[p.Root]++
	}
	for k := range t.Nodes {
		if uses[k] != 1 {
			return false
		}
	}
	// So all that is used is a node, if no more numbers are there than nodes.
	return len(uses) == len(t.Nodes)
}

// copied is a tree that shares nothing with t.
func copied(t api.Tree) api.Tree {
	return api.Tree{Nodes: slices.Clone(t.Nodes), Parts: slices.Clone(t.Parts)}
}

// P6.1, P6.2: the chapter's examples.
func TestExamples(t *testing.T) {
	letters := octets.Or(octets.Of(0, ']', 'z'), octets.Range('a', 'c'))
	for _, x := range []struct {
		tree          api.Tree
		print         string
		places, depth int
	}{
		{alone(one('a')), "a", 1, 1},
		{lay(part{alt(seq(one('a'), one('b')), empty()), false}, part{star(set(octets.All())), true}), "ab|()&!.*", 3, 3},
		{alone(seq(one('a'), seq(times(alt(one('a'), one('-')), 2, 3), one('[')))), `a((a|-){2,3}\[)`, 8, 5},
		{alone(set(letters)), `[\x00\]a-cz]`, 1, 1},
		{api.Tree{}, "", 0, 0},
	} {
		if tree.Print(x.tree) != x.print || tree.Places(x.tree) != x.places || tree.Depth(x.tree) != x.depth || tree.Right(x.tree) != (x.print != "") {
			t.Errorf("%s: %q, %d places, depth %d, right %v", x.print, tree.Print(x.tree), tree.Places(x.tree), tree.Depth(x.tree), tree.Right(x.tree))
		}
	}
}

// P6.1: Print, each kind below each other one.
func TestPrint(t *testing.T) {
	a, b, c := one('a'), one('b'), one('c')
	for _, x := range []struct {
		p    plant
		said string
	}{
		{empty(), "()"},
		{seq(empty(), empty()), "()()"},
		{alt(empty(), empty()), "()|()"},
		{star(empty()), "()*"},
		{seq(a, b), "ab"},
		{seq(seq(a, b), c), "abc"},
		{seq(a, seq(b, c)), "a(bc)"},
		{seq(seq(a, b), seq(b, c)), "ab(bc)"},
		{seq(alt(a, b), c), "(a|b)c"},
		{seq(a, alt(b, c)), "a(b|c)"},
		{seq(star(a), star(b)), "a*b*"},
		{alt(a, b), "a|b"},
		{alt(alt(a, b), c), "a|b|c"},
		{alt(a, alt(b, c)), "a|(b|c)"},
		{alt(seq(a, b), seq(b, c)), "ab|bc"},
		{alt(star(a), star(b)), "a*|b*"},
		{star(a), "a*"},
		{star(seq(a, b)), "(ab)*"},
		{star(alt(a, b)), "(a|b)*"},
		{star(star(a)), "(a*)*"},
		{times(times(a, 0, 1), 1, -1), "(a?)+"},
		{star(set(octets.Of('a', 'b'))), "[ab]*"},
		{star(one('*')), `\**`},
		{seq(one('\\'), seq(one('x'), one('4'))), `\\(x4)`},
	} {
		if got := tree.Print(alone(x.p)); got != x.said {
			t.Errorf("Print: %s, not %s", got, x.said)
		}
	}
}

// P6.1: what is printed behind what is there some times, and which times are right.
func TestTimes(t *testing.T) {
	for _, least := range numbers() {
		for _, most := range numbers() {
			y := alone(times(one('a'), least, most))
			want := ""
			switch {
			case least < 0 || least > 9 || most > 9:
			case most == -1 && least == 0:
				want = "a*"
			case most == -1 && least == 1:
				want = "a+"
			case least == 0 && most == 1:
				want = "a?"
			case least == most:
				want = "a{" + string(rune('0'+least)) + "}"
			case least < most:
				want = "a{" + string(rune('0'+least)) + "," + string(rune('0'+most)) + "}"
			}
			if got := tree.Print(y); got != want || tree.Right(y) != (want != "") {
				t.Errorf("from %d to %d times: %q, not %q; Right %v", least, most, got, want, tree.Right(y))
			}
			if want == "" && !refused(y) {
				t.Errorf("from %d to %d times: %d places, depth %d", least, most, tree.Places(y), tree.Depth(y))
			}
		}
	}
}

// P6.1: each set of one byte.
func TestBytes(t *testing.T) {
	for c := range 256 {
		var want string
		switch {
		case c < 0x21 || c > 0x7e:
			want = `\x` + string("0123456789abcdef"[c/16]) + string("0123456789abcdef"[c%16])
		case slices.Contains([]int{'&', '!', '|', '*', '+', '?', '{', '}', '[', ']', '(', ')', '.', '\\'}, c):
			want = `\` + string(rune(c))
		default:
			want = string(rune(c))
		}
		if got := tree.Print(alone(one(byte(c)))); got != want {
			t.Errorf("Print of the byte %d: %s, not %s", c, got, want)
		}
	}
}

// P6.1: sets, written down.
func TestSets(t *testing.T) {
	for _, x := range []struct {
		s    api.Set
		said string
	}{
		{octets.All(), "."},
		{api.Set{}, "[]"},
		{octets.Of('^'), "^"},
		{octets.Of('-'), "-"},
		{octets.Of(','), ","},
		{octets.Of('a', 'b'), "[ab]"},
		{octets.Of('a', 'c'), "[ac]"},
		{octets.Of('a', 'b', 'c'), "[a-c]"},
		{octets.Range('a', 'd'), "[a-d]"},
		{octets.Of('a', 'b', 'd', 'e', 'f', 'h'), "[abd-fh]"},
		{octets.Of('\\', ']', '^'), `[\\-\^]`},
		{octets.Of(']', '^'), `[\]\^]`},
		{octets.Of('\\', ']'), `[\\\]]`},
		{octets.Of('^', 'a'), `[\^a]`},
		{octets.Of('-', 'a'), `[\-a]`},
		{octets.Range('+', '-'), `[+-\-]`},
		{octets.Range('-', '/'), `[\--/]`},
		{octets.Of('&', '!', '|', '*', '?', '{', '}', '[', '(', '.'), "[!&(*.?[{-}]"},
		{octets.Of(' ', '!'), `[\x20!]`},
		{octets.Of('~', 127), `[~\x7f]`},
		{octets.Of(0, 255), `[\x00\xff]`},
		{octets.Range(0, 1), `[\x00\x01]`},
		{octets.Range(254, 255), `[\xfe\xff]`},
		{octets.Range(0xab, 0xcd), `[\xab-\xcd]`},
		{octets.Range(1, 255), `[\x01-\xff]`},
		{octets.Range(0, 254), `[\x00-\xfe]`},
		{octets.Range(62, 65), "[>-A]"},
		{octets.Range(127, 128), `[\x7f\x80]`},
		{octets.Not(octets.Of('a')), "[\\x00-`b-\\xff]"},
		{octets.Not(octets.Of('b', 'd')), `[\x00-ace-\xff]`},
	} {
		if got := tree.Print(alone(set(x.s))); got != x.said {
			t.Errorf("Print of a set: %s, not %s", got, x.said)
		}
	}
}

// P6.1, P6.3: of sets of all kinds the print is what the words say, of no two the same, and to be seen.
func TestSetsApart(t *testing.T) {
	found := map[string]api.Set{}
	try := func(s api.Set) {
		got := tree.Print(alone(set(s)))
		if want := saidSet(s); got != want {
			t.Fatalf("Print of a set: %s, not %s", got, want)
		}
		if other, ok := found[got]; ok && other != s {
			t.Fatalf("two sets are printed %s: %v, %v", got, s, other)
		}
		if !seen(got) {
			t.Fatalf("a print is not to be seen: %q", got)
		}
		found[got] = s
	}
	for from := range 256 {
		for to := from; to < 256; to++ {
			try(octets.Range(byte(from), byte(to)))
			try(octets.Not(octets.Range(byte(from), byte(to))))
			try(octets.Of(byte(from), byte(to)))
		}
	}
	const odd = "[\\]^_,-./xf0 !"
	for some := range 1 << len(odd) {
		var s api.Set
		for k := range len(odd) {
			if some>>k&1 == 1 {
				s = octets.Or(s, octets.Of(odd[k]))
			}
		}
		try(s)
	}
	c := chance(1)
	for range 20000 {
		try(c.set())
	}
}

// seen tells whether a text is of bytes from 0x21 to 0x7e alone.
func seen(s string) bool {
	for i := range len(s) {
		if s[i] < 0x21 || s[i] > 0x7e {
			return false
		}
	}
	return true
}

// P6.3: no two trees that are not alike have one print; those that are alike have, however their nodes are numbered.
func TestPrintsApart(t *testing.T) {
	found := map[string]string{}
	try := func(parts []part) {
		holds(t, parts)
		got, id := tree.Print(lay(parts...)), names(parts)
		if other, ok := found[got]; ok && other != id {
			t.Fatalf("two trees are printed %s: %s, %s", got, id, other)
		}
		if !seen(got) {
			t.Fatalf("a print is not to be seen: %q", got)
		}
		found[got] = id
	}
	for _, p := range small(5) {
		try([]part{{p, false}})
	}
	for _, p := range small(3) {
		try([]part{{p, true}})
		for _, q := range small(2) {
			for k := range 4 {
				try([]part{{p, k&1 == 1}, {q, k&2 == 2}})
			}
		}
	}
	c := chance(2)
	for range 5000 {
		try(c.parts())
	}
}

// P6.1: what Print tells of many parts, and of as many nodes as there may be.
func TestLarge(t *testing.T) {
	var parts []part
	for i := range 20 {
		parts = append(parts, part{chain(30, one(byte('a'+i)), 0, -1), i%2 == 1})
	}
	holds(t, parts)
	holds(t, []part{{chain(600, one('a'), 2, 3), true}})
	holds(t, []part{{chain(600, empty(), 0, 1), true}})
	left, right := one('a'), one('a')
	for range 299 {
		left, right = seq(left, one('b')), alt(one('b'), right)
	}
	holds(t, []part{{left, false}})
	holds(t, []part{{right, false}})
	holds(t, []part{{times(left, 9, 9), false}})
	if got, want := tree.Print(alone(left)), "a"+strings.Repeat("b", 299); got != want {
		t.Errorf("a row of 300 bytes: %s", got)
	}
	if got, want := tree.Print(alone(right)), strings.Repeat("b|(", 298)+"b|a"+strings.Repeat(")", 298); got != want {
		t.Errorf("300 bytes, each within the next: %s", got)
	}
}

// P6.1: how many parts and nodes a right tree has.
func TestMany(t *testing.T) {
	for _, n := range []int{0, 1, 2, 19, 20, 21, 22, 600, 601, 10000} {
		var y api.Tree
		for i := range n {
			y.Nodes = append(y.Nodes, api.Node{Kind: api.NEmpty})
			y.Parts = append(y.Parts, api.Part{Root: i})
		}
		if got, want := tree.Right(y), n >= 1 && n <= 20; got != want || got == refused(y) {
			t.Errorf("%d parts: Right %v", n, got)
		}
	}
	for _, n := range []int{1, 2, 599, 600, 601, 602, 10000} {
		y := alone(chain(n, one('a'), 1, 1))
		if got, want := tree.Right(y), n <= 600; got != want || got == refused(y) {
			t.Errorf("%d nodes: Right %v", n, got)
		}
		if n <= 600 && tree.Depth(y) != n {
			t.Errorf("%d nodes: depth %d", n, tree.Depth(y))
		}
	}
}

// P6.1: trees that are not right, written down.
func TestWrong(t *testing.T) {
	a, e := api.Node{Kind: api.NSet, Set: octets.Of('a')}, api.Node{Kind: api.NEmpty}
	both := func(kind uint8, a, b int) api.Node { return api.Node{Kind: kind, A: a, B: b} }
	often := func(a int) api.Node { return api.Node{Kind: api.NTimes, A: a, Max: -1} }
	for _, x := range []struct {
		why   string
		nodes []api.Node
		roots []int
	}{
		{"no nodes and no parts", nil, nil},
		{"no parts", []api.Node{a}, nil},
		{"no nodes", nil, []int{0}},
		{"a root that is no node", []api.Node{a}, []int{1}},
		{"a root below 0", []api.Node{a}, []int{-1}},
		{"a root far below 0", []api.Node{a}, []int{math.MinInt}},
		{"a root far above", []api.Node{a}, []int{math.MaxInt}},
		{"a root that is no node, beside one", []api.Node{a}, []int{0, 1}},
		{"a root twice", []api.Node{a}, []int{0, 0}},
		{"a node that is none's", []api.Node{a, a}, []int{1}},
		{"a node that is none's, the last", []api.Node{a, a}, []int{0}},
		{"a node A and B", []api.Node{a, both(api.NSeq, 0, 0)}, []int{1}},
		{"a node A and B, another none's", []api.Node{a, a, both(api.NAlt, 1, 1)}, []int{2}},
		{"a node A of two", []api.Node{a, often(0), often(0)}, []int{1, 2}},
		{"a node of two that stand one below the other", []api.Node{a, often(0), both(api.NSeq, 0, 1)}, []int{2}},
		{"a node A and a root", []api.Node{a, often(0)}, []int{0, 1}},
		{"a node B and a root", []api.Node{a, e, both(api.NAlt, 0, 1)}, []int{2, 1}},
		{"a node that is its own A", []api.Node{often(0)}, []int{0}},
		{"a node that is its own A, alone", []api.Node{a, often(1)}, []int{0}},
		{"a node that is its own B", []api.Node{a, both(api.NSeq, 0, 1)}, []int{1}},
		{"an A above", []api.Node{often(1), a}, []int{0}},
		{"a B above", []api.Node{a, both(api.NSeq, 0, 2), a}, []int{1}},
		{"two that are each other's A", []api.Node{a, often(2), often(1)}, []int{0}},
		{"an A below 0", []api.Node{a, both(api.NSeq, -1, 0)}, []int{1}},
		{"a B below 0", []api.Node{a, both(api.NAlt, 0, -1)}, []int{1}},
		{"an A of NTimes below 0", []api.Node{often(-1)}, []int{0}},
		{"an A that is no node", []api.Node{a, often(2)}, []int{1}},
		{"no kind", []api.Node{{}}, []int{0}},
		{"a kind too many", []api.Node{{Kind: 6}}, []int{0}},
		{"the last kind there could be", []api.Node{{Kind: 255}}, []int{0}},
		{"a wrong node deep within", []api.Node{{Kind: 7}, often(0), often(1)}, []int{2}},
	} {
		y := api.Tree{Nodes: x.nodes}
		for _, k := range x.roots {
			y.Parts = append(y.Parts, api.Part{Root: k})
		}
		if !refused(y) {
			t.Errorf("%s: Right %v, Print %q, Places %d, Depth %d", x.why, tree.Right(y), tree.Print(y), tree.Places(y), tree.Depth(y))
		}
	}
}

// P6.1: what a kind does not use is zero; what it uses may be anything that fits.
func TestUnused(t *testing.T) {
	kids := []api.Node{{Kind: api.NEmpty}, {Kind: api.NEmpty}}
	for kind := range 256 {
		n := api.Node{Kind: uint8(kind)}
		y := api.Tree{Nodes: []api.Node{n}, Parts: []api.Part{{}}}
		switch kind {
		case api.NSeq, api.NAlt:
			n.B = 1
			y = api.Tree{Nodes: []api.Node{kids[0], kids[1], n}, Parts: []api.Part{{Root: 2}}}
		case api.NTimes:
			y = api.Tree{Nodes: []api.Node{kids[0], n}, Parts: []api.Part{{Root: 1}}}
		}
		if got, want := tree.Right(y), kind >= 1 && kind <= 5; got != want || got == refused(y) {
			t.Errorf("kind %d: Right %v", kind, got)
		}
		last := len(y.Nodes) - 1
		for word := range 4 {
			z := copied(y)
			z.Nodes[last].Set[word] = 1 << 63
			if got, want := tree.Right(z), kind == api.NSet; got != want || got == refused(z) {
				t.Errorf("kind %d with a set: Right %v", kind, got)
			}
		}
	}
}

// P6.1: trees of which one number, or two, were made another one, against the chapter's words.
func TestSpoiled(t *testing.T) {
	a, b := one('a'), set(octets.Range('a', 'c'))
	right, wrong := 0, 0
	for _, y := range []api.Tree{
		alone(a), alone(empty()), alone(star(a)), alone(seq(a, b)), alone(alt(a, empty())), alone(times(seq(a, b), 2, 3)),
		lay(part{a, true}, part{alt(b, star(empty())), false}), layFlat(part{seq(star(a), alt(a, b)), false}, part{empty(), true}),
		{Nodes: []api.Node{{}, {}}, Parts: []api.Part{{}, {}}},
	} {
		spots := numbersOf(&y)
		for i := range spots {
			for k := range i + 1 {
				for _, m := range numbers() {
					for _, n := range []int{-1, 0, 1, 2, 3, 9} {
						was := [2]int{*spots[i], *spots[k]}
						*spots[k], *spots[i] = n, m
						got := tree.Right(y)
						if got != may(y) || got == refused(y) {
							t.Fatalf("Right(%v): %v", y, got)
						}
						if got {
							right++
						} else {
							wrong++
						}
						*spots[k] = was[1]
						*spots[i] = was[0]
					}
				}
			}
		}
	}
	if right == 0 || wrong == 0 {
		t.Errorf("%d were right, %d not", right, wrong)
	}
}

// numbersOf are the places of all numbers of a tree, but for kinds and sets.
func numbersOf(y *api.Tree) []*int {
	var list []*int
	for i := range y.Nodes {
		n := &y.Nodes[i]
		list = append(list, &n.A, &n.B, &n.Min, &n.Max)
	}
	for i := range y.Parts {
		list = append(list, &y.Parts[i].Root)
	}
	return list
}

// P6.1: trees without a plan, nearly all of them not right, against the chapter's words.
func TestAnything(t *testing.T) {
	c := chance(3)
	right := 0
	for range 200000 {
		var y api.Tree
		for i := range c.below(5) {
			n := api.Node{Kind: uint8(1 + c.below(5))}
			if n.Kind == api.NSet || c.below(60) == 0 {
				n.Set = c.set()
			}
			if n.Kind >= api.NSeq || c.below(60) == 0 {
				n.A = c.below(i+2) - c.below(8)/7
			}
			if n.Kind == api.NSeq || n.Kind == api.NAlt || c.below(60) == 0 {
				n.B = c.below(i+2) - c.below(8)/7
			}
			if n.Kind == api.NTimes || c.below(60) == 0 {
				n.Min, n.Max = c.below(3), c.below(12)-1
			}
			y.Nodes = append(y.Nodes, n)
		}
		for range c.below(3) {
			y.Parts = append(y.Parts, api.Part{Root: c.below(len(y.Nodes) + 1), Not: c.below(2) == 0})
		}
		got := tree.Right(y)
		if got != may(y) || got == refused(y) {
			t.Fatalf("Right(%v): %v", y, got)
		}
		if got {
			right++
		}
	}
	if right < 1000 {
		t.Errorf("only %d were right", right)
	}
}

// P6.2: Places, written down.
func TestPlaces(t *testing.T) {
	a := one('a')
	for _, x := range []struct {
		parts  []part
		places int
	}{
		{[]part{{empty(), false}}, 0},
		{[]part{{set(api.Set{}), false}}, 1},
		{[]part{{set(octets.All()), true}}, 1},
		{[]part{{seq(a, a), false}}, 2},
		{[]part{{alt(a, empty()), false}}, 1},
		{[]part{{times(a, 0, 0), false}}, 0},
		{[]part{{times(a, 0, 9), false}}, 9},
		{[]part{{times(a, 9, 9), false}}, 9},
		{[]part{{times(a, 0, -1), false}}, 1},
		{[]part{{times(a, 1, -1), false}}, 1},
		{[]part{{times(seq(a, a), 1, 3), false}}, 6},
		{[]part{{times(times(a, 2, 2), 0, 4), false}}, 8},
		{[]part{{a, false}, {seq(a, a), true}, {empty(), false}}, 3},
		{[]part{{counted(1<<30 - 1), false}}, 1<<30 - 1},
		{[]part{{counted(1 << 30), false}}, 1 << 30},
		{[]part{{counted(1<<30 + 1), false}}, 1 << 30},
		{[]part{{seq(counted(1<<30-1), a), false}}, 1 << 30},
		{[]part{{counted(1<<30 - 1), false}, {a, true}}, 1 << 30},
		{[]part{{counted(1<<30 - 1), false}, {empty(), true}}, 1<<30 - 1},
		{[]part{{counted(1<<30 - 2), false}, {a, true}}, 1<<30 - 1},
		{[]part{{counted(1 << 29), false}, {counted(1 << 29), true}}, 1 << 30},
		{[]part{{counted(1 << 29), false}, {counted(1<<29 - 1), true}}, 1<<30 - 1},
		{[]part{{chain(600, a, 9, 9), false}}, 1 << 30},
		{[]part{{chain(600, empty(), 9, 9), false}}, 0},
		{[]part{{times(chain(500, a, 0, 9), 0, 0), false}}, 0},
		{[]part{{times(times(chain(500, a, 0, 9), 0, 0), 0, 9), false}, {a, true}}, 1},
		{[]part{{star(chain(500, a, 0, 9)), false}}, 1 << 30},
		{[]part{{alt(chain(200, a, 0, 9), chain(200, a, 0, 9)), false}}, 1 << 30},
	} {
		if got := tree.Places(lay(x.parts...)); got != x.places {
			t.Errorf("Places of %.80s: %d, not %d", saidParts(x.parts), got, x.places)
		}
		holds(t, x.parts)
	}
	var full []part
	for range 20 {
		full = append(full, part{chain(30, a, 9, 9), false})
	}
	if got := tree.Places(lay(full...)); got != 1<<30 {
		t.Errorf("Places of 20 parts that are full: %d", got)
	}
}

// P6.2: Depth, written down.
func TestDepth(t *testing.T) {
	a := one('a')
	for _, x := range []struct {
		parts []part
		depth int
	}{
		{[]part{{empty(), false}}, 1},
		{[]part{{a, true}}, 1},
		{[]part{{times(a, 0, 0), false}}, 2},
		{[]part{{seq(a, seq(a, a)), false}}, 3},
		{[]part{{seq(seq(a, a), a), false}}, 3},
		{[]part{{alt(seq(a, a), star(star(a))), false}}, 4},
		{[]part{{alt(star(star(a)), seq(a, a)), false}}, 4},
		{[]part{{star(a), false}, {a, false}}, 2},
		{[]part{{a, false}, {star(a), true}}, 2},
		{[]part{{a, false}, {star(star(a)), true}, {star(a), false}}, 3},
		{[]part{{chain(600, a, 0, 0), false}}, 600},
	} {
		if got := tree.Depth(lay(x.parts...)); got != x.depth {
			t.Errorf("Depth of %.80s: %d, not %d", saidParts(x.parts), got, x.depth)
		}
		if got := tree.Depth(layLast(x.parts...)); got != x.depth {
			t.Errorf("Depth of %.80s, laid from the last one on: %d, not %d", saidParts(x.parts), got, x.depth)
		}
	}
}

// P6.3: trees that differ in one thing alone have prints that differ.
func TestDiffer(t *testing.T) {
	a, b := one('a'), one('b')
	list := [][]part{
		{{a, false}}, {{a, true}}, {{b, false}}, {{empty(), false}}, {{set(api.Set{}), false}}, {{set(octets.Of('a', 'b')), false}},
		{{a, false}, {b, false}}, {{b, false}, {a, false}}, {{a, true}, {b, false}}, {{a, false}, {b, true}}, {{a, false}, {b, false}, {b, false}},
		{{one('&'), false}}, {{one('!'), false}}, {{seq(one('!'), a), false}}, {{seq(a, seq(one('&'), b)), false}},
		{{seq(a, b), false}}, {{seq(b, a), false}}, {{alt(a, b), false}}, {{alt(b, a), false}}, {{seq(seq(a, b), a), false}}, {{seq(a, seq(b, a)), false}},
		{{alt(alt(a, b), a), false}}, {{alt(a, alt(b, a)), false}}, {{seq(a, star(b)), false}}, {{star(seq(a, b)), false}}, {{alt(a, star(b)), false}}, {{star(alt(a, b)), false}},
		{{seq(a, empty()), false}}, {{seq(empty(), a), false}}, {{alt(a, empty()), false}}, {{times(a, 1, 1), false}}, {{times(times(a, 1, 1), 1, 1), false}},
		{{seq(a, seq(one('{'), seq(one('1'), one('}')))), false}}, {{one('.'), false}}, {{set(octets.All()), false}}, {{one(0), false}}, {{seq(seq(seq(one('\\'), one('x')), one('0')), one('0')), false}},
	}
	for i, x := range list {
		for k, y := range list {
			if got := tree.Print(lay(x...)) == tree.Print(layLast(y...)); got != (i == k) {
				t.Errorf("%s and %s: one print %v", tree.Print(lay(x...)), tree.Print(lay(y...)), got)
			}
		}
	}
}

// R3, R4: what is handed in, its spare room too, is not changed, and what is told is told again.
func TestNothingChanges(t *testing.T) {
	c := chance(4)
	for range 300 {
		y := lay(c.parts()...)
		if c.below(3) == 0 {
			y.Nodes[c.below(len(y.Nodes))].A += c.below(3)
		}
		room := copied(y)
		for i := range 5 {
			room.Nodes = append(room.Nodes, api.Node{Kind: 9, A: i, B: -i})
			room.Parts = append(room.Parts, api.Part{Root: i, Not: true})
		}
		whole := copied(room)
		z := api.Tree{Nodes: room.Nodes[:len(y.Nodes)], Parts: room.Parts[:len(y.Parts)]}
		right, print, places, depth := tree.Right(z), tree.Print(z), tree.Places(z), tree.Depth(z)
		if !slices.Equal(room.Nodes, whole.Nodes) || !slices.Equal(room.Parts, whole.Parts) {
			t.Fatalf("%s was changed", print)
		}
		if tree.Right(y) != right || tree.Print(y) != print || tree.Places(y) != places || tree.Depth(y) != depth {
			t.Fatalf("of %s something else is told again", print)
		}
	}
}
