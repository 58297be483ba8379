package rex_test

import (
	"fmt"
	"regexp"
	"slices"
	"strings"
	"testing"

	"shibboleth/api"
	"shibboleth/octets"
	"shibboleth/rex"
	"shibboleth/tree"
)

// plant is a node with what stands below it.
type plant struct {
	node  api.Node
	below []plant
}

func empty() plant         { return plant{node: api.Node{Kind: api.NEmpty}} }
func set(s api.Set) plant  { return plant{node: api.Node{Kind: api.NSet, Set: s}} }
func one(c byte) plant     { return set(octets.Of(c)) }
func seq(a, b plant) plant { return plant{api.Node{Kind: api.NSeq}, []plant{a, b}} }
func alt(a, b plant) plant { return plant{api.Node{Kind: api.NAlt}, []plant{a, b}} }
func times(a plant, least, most int) plant {
	return plant{api.Node{Kind: api.NTimes, Min: least, Max: most}, []plant{a}}
}

// part is a part of a constraint.
type part struct {
	root plant
	not  bool
}

// lay lays parts into a tree: A's nodes, B's, then the node itself.
func lay(parts ...part) api.Tree {
	var t api.Tree
	var put func(p plant) int
	put = func(p plant) int {
		n := p.node
		if len(p.below) > 0 {
			n.A = put(p.below[0])
		}
		if len(p.below) > 1 {
			n.B = put(p.below[1])
		}
		t.Nodes = append(t.Nodes, n)
		return len(t.Nodes) - 1
	}
	for _, p := range parts {
		t.Parts = append(t.Parts, api.Part{Root: put(p.root), Not: p.not})
	}
	return t
}

// places is how many places a plant has.
func places(p plant) int {
	n := 0
	for _, b := range p.below {
		n += places(b)
	}
	switch {
	case p.node.Kind == api.NSet:
		return 1
	case p.node.Kind == api.NTimes && p.node.Max >= 0:
		return min(1<<20, n*p.node.Max)
	}
	return min(1<<20, n)
}

// same tells whether two trees are one, their nodes numbered alike.
func same(x, y api.Tree) bool {
	return slices.Equal(x.Nodes, y.Nodes) && slices.Equal(x.Parts, y.Parts)
}

// alike tells whether two right trees are alike, however their nodes are numbered.
func alike(x, y api.Tree) bool {
	var kin func(i, k int) bool
	kin = func(i, k int) bool {
		a, b := x.Nodes[i], y.Nodes[k]
		if a.Kind != b.Kind || a.Set != b.Set || a.Min != b.Min || a.Max != b.Max {
			return false
		}
		if a.Kind >= api.NSeq && !kin(a.A, b.A) {
			return false
		}
		return a.Kind != api.NSeq && a.Kind != api.NAlt || kin(a.B, b.B)
	}
	return slices.EqualFunc(x.Parts, y.Parts, func(p, q api.Part) bool { return p.Not == q.Not && kin(p.Root, q.Root) })
}

// read wants s to be the text of these parts.
func read(t *testing.T, s string, parts ...part) {
	t.Helper()
	y, at, e := rex.Parse(s)
	if at != 0 || e != api.OK || !same(y, lay(parts...)) {
		t.Errorf("Parse(%q): %v, %d, %d; not %v", s, y, at, e, lay(parts...))
	}
}

// readOne wants s to be the text of one part that does not say Not.
func readOne(t *testing.T, s string, p plant) {
	t.Helper()
	read(t, s, part{p, false})
}

// refuse wants s to be refused at that place with that error.
func refuse(t *testing.T, s string, at int, e api.Errno) {
	t.Helper()
	y, gotAt, gotE := rex.Parse(s)
	if gotAt != at || gotE != e || len(y.Nodes)+len(y.Parts) != 0 {
		t.Errorf("Parse(%q): %v, %d, %d; not %d, %d", s, y, gotAt, gotE, at, e)
	}
}

// The model works on letters, one a byte, so that a regular expression of Go takes each byte for itself.
func letters(s string) string {
	list := make([]rune, len(s))
	for i := range len(s) {
		list[i] = rune(s[i])
	}
	return string(list)
}

var (
	plain  = regexp.MustCompile(`^[^&!|*+?{}\[\]().\\]`)
	escape = regexp.MustCompile(`^\\(?:[&!|*+?{}\[\]().\\]|x[0-9a-fA-F]{2})`)
	inside = regexp.MustCompile(`^(?:[^\\\]^-]|\\(?:[\\\]^-]|x[0-9a-fA-F]{2}))`)
	begun  = regexp.MustCompile(`^\{(?:[0-9](?:,[0-9]?)?)?`)
)

// value is the byte that a text of one byte, or an escape, says; the text is letters.
func value(s string) byte {
	list := []rune(s)
	switch {
	case len(list) == 1:
		return byte(list[0])
	case len(list) == 2:
		return byte(list[1])
	}
	var c byte
	fmt.Sscanf(s, `\x%x`, &c)
	return c
}

// judge is the model of where a text goes wrong: it goes from left to right, and knows at each place what may follow.
func judge(s string) (at int, e api.Errno) {
	if len(s) > 200 {
		return 200, api.ErrLong
	}
	rest := []rune(letters(s))
	parts, open := 1, 0
	mayNot, mayTimes := true, false
	total := len(rest)
	for len(rest) > 0 {
		at = total - len(rest)
		c, n := rest[0], 1
		now := string(rest)
		wasNot, wasTimes := mayNot, mayTimes
		mayNot, mayTimes = false, false
		switch {
		case c == '!' && wasNot:
			mayNot = true
		case c == '&' && open == 0:
			if parts++; parts > 20 {
				return at, api.ErrLong
			}
			mayNot = true
		case c == '|':
		case c == '(':
			if open++; open > 16 {
				return at, api.ErrLong
			}
		case c == ')' && open > 0:
			open--
			mayTimes = true
		case strings.ContainsRune("*+?", c) && wasTimes:
		case c == '{' && wasTimes:
			text := begun.FindString(now)
			if n = len(text); n == 4 && text[1] > text[3] {
				return at + 3, api.ErrForm
			}
			if n < 2 || n == 3 || n == len(now) || now[n] != '}' {
				return at + n, api.ErrForm
			}
			n++
		case c == '[':
			var wrong int
			if n, wrong = class(rest); n == 0 {
				return at + wrong, api.ErrForm
			}
			mayTimes = true
		case c == '.' || plain.MatchString(now):
			mayTimes = true
		case escape.MatchString(now):
			n = len(escape.FindString(now))
			mayTimes = true
		default:
			return at, api.ErrForm
		}
		rest = rest[n:]
	}
	switch {
	case open > 0:
		return len(s), api.ErrForm
	case placesOf(grow(s)) > 63:
		return len(s), api.ErrLong
	}
	return 0, api.OK
}

// class is how long the class at the beginning is; 0 and where it goes wrong, if it is none.
func class(rest []rune) (n, wrong int) {
	n = 1
	if len(rest) > 1 && rest[1] == '^' {
		n = 2
	}
	// first is the byte ahead of a -, if a range may be there.
	first := -1
	for n < len(rest) && rest[n] != ']' {
		from := n
		ranged := rest[n] == '-' && first >= 0
		if ranged {
			from = n + 1
		}
		text := inside.FindString(string(rest[from:]))
		if text == "" {
			return 0, from
		}
		if ranged && int(value(text)) < first {
			return 0, from
		}
		first = int(value(text))
		if ranged {
			first = -1
		}
		n = from + len([]rune(text))
	}
	if n >= len(rest) {
		return 0, len(rest)
	}
	return n + 1, 0
}

var tokens = regexp.MustCompile(`(?s)\\x..|\\.|\[(?:\\.|[^\]\\])*\]|\{.*?\}|.`)

// grow is the model of the tree of a text of which judge says nothing: it is cut from the outside.
func grow(s string) []part {
	var list []part
	for _, row := range cut(tokens.FindAllString(letters(s), -1), "&") {
		not := false
		for len(row) > 0 && row[0] == "!" {
			not = !not
			row = row[1:]
		}
		list = append(list, part{growPattern(row), not})
	}
	return list
}

// cut cuts a row of tokens at those that stand in no ( ).
func cut(row []string, at string) [][]string {
	list := [][]string{nil}
	open := 0
	for _, text := range row {
		switch text {
		case "(":
			open++
		case ")":
			open--
		}
		if text == at && open == 0 {
			list = append(list, nil)
			continue
		}
		list[len(list)-1] = append(list[len(list)-1], text)
	}
	return list
}

// growPattern is the plant of a pattern's tokens.
func growPattern(row []string) plant {
	branches := cut(row, "|")
	p := growBranch(branches[0])
	for _, b := range branches[1:] {
		p = alt(p, growBranch(b))
	}
	return p
}

// growBranch is the plant of a branch's tokens.
func growBranch(row []string) plant {
	var pieces []plant
	for i := 0; i < len(row); i++ {
		last := len(pieces) - 1
		switch {
		case row[i] == "(":
			from := i + 1
			for open := 1; open > 0; {
				i++
				switch row[i] {
				case "(":
					open++
				case ")":
					open--
				}
			}
			pieces = append(pieces, growPattern(row[from:i]))
		case row[i] == "*":
			pieces[last] = times(pieces[last], 0, -1)
		case row[i] == "+":
			pieces[last] = times(pieces[last], 1, -1)
		case row[i] == "?":
			pieces[last] = times(pieces[last], 0, 1)
		case row[i][0] == '{':
			text := row[i]
			pieces[last] = times(pieces[last], int(text[1]-'0'), int(text[len(text)-2]-'0'))
		default:
			pieces = append(pieces, set(growSet(row[i])))
		}
	}
	if len(pieces) == 0 {
		return empty()
	}
	p := pieces[0]
	for _, q := range pieces[1:] {
		p = seq(p, q)
	}
	return p
}

var items = regexp.MustCompile(`(?s)(\\x..|\\.|[^\\])(?:-(\\x..|\\.|[^\\]))?`)

// growSet is the set of a token.
func growSet(text string) api.Set {
	var s api.Set
	switch {
	case text == ".":
		return octets.All()
	case text[0] != '[':
		return octets.Of(value(text))
	}
	said, not := strings.CutPrefix(text[1:len(text)-1], "^")
	for _, item := range items.FindAllStringSubmatch(said, -1) {
		from := int(value(item[1]))
		to := from
		if item[2] != "" {
			to = int(value(item[2]))
		}
		for c := from; c <= to; c++ {
			s[c/64] |= 1 << (c % 64)
		}
	}
	if not {
		for i := range s {
			s[i] = ^s[i]
		}
	}
	return s
}

// placesOf is how many places parts have.
func placesOf(parts []part) int {
	n := 0
	for _, p := range parts {
		n += places(p.root)
	}
	return n
}

// holds holds the answer for a text against the model, and against what is promised to follow; it tells whether s is a constraint.
func holds(t *testing.T, s string) bool {
	t.Helper()
	y, at, e := rex.Parse(s)
	wantAt, want := judge(s)
	if at != wantAt || e != want {
		t.Fatalf("Parse(%q): %d at %d; not %d at %d", s, e, at, want, wantAt)
	}
	if e != api.OK {
		if len(y.Nodes)+len(y.Parts) != 0 {
			t.Fatalf("Parse(%q): %d, and beside it %v", s, e, y)
		}
		return false
	}
	if !same(y, lay(grow(s)...)) {
		t.Fatalf("Parse(%q): %v, not %v", s, y, lay(grow(s)...))
	}
	if !tree.Right(y) {
		t.Fatalf("Parse(%q) is not right: %v", s, y)
	}
	again(t, y)
	return true
}

// again wants the tree to be read from its print, if that is not too long; it tells whether it is not.
func again(t *testing.T, y api.Tree) bool {
	t.Helper()
	print := tree.Print(y)
	z, at, e := rex.Parse(print)
	if tooLong(print) || tree.Places(y) > 63 {
		if e != api.ErrLong {
			t.Fatalf("Parse of the print %q, which is too long: %d at %d", print, e, at)
		}
		return false
	}
	if e != api.OK || at != 0 || !alike(y, z) {
		t.Fatalf("Parse of the print %q: %d at %d, and %v, not %v", print, e, at, z, y)
	}
	if tree.Print(z) != print {
		t.Fatalf("the print %q was printed again as %q", print, tree.Print(z))
	}
	return true
}

// tooLong tells whether a print has too many bytes, or too many ( open at once.
func tooLong(print string) bool {
	open, most := 0, 0
	for _, text := range tokens.FindAllString(print, -1) {
		switch text {
		case "(":
			open++
		case ")":
			open--
		}
		most = max(most, open)
	}
	return len(print) > 200 || most > 16
}

// chance is a row of numbers without a plan.
type chance uint64

// below is the next one, from 0 to n-1.
func (c *chance) below(n int) int {
	*c = *c*6364136223846793005 + 1442695040888963407
	return int(uint64(*c) >> 33 % uint64(n))
}

// pick is one of these bytes.
func (c *chance) pick(list string) byte {
	return list[c.below(len(list))]
}

// byte is any byte, or one of those that mean something.
func (c *chance) byte() byte {
	if c.below(3) == 0 {
		return byte(c.below(256))
	}
	return c.pick("&!|*+?{}[]().\\^-,xX0123456789afAFgz")
}

// saidByte is a way to write c where these ones are marks.
func (c *chance) saidByte(b byte, marks string) string {
	marked := strings.IndexByte(marks, b) >= 0
	switch {
	case c.below(8) == 0:
		return fmt.Sprintf(`\x%02x`, b)
	case c.below(8) == 0:
		return fmt.Sprintf(`\x%02X`, b)
	case marked:
		return `\` + string([]byte{b})
	}
	return string([]byte{b})
}

// saidClass is a class without a plan.
func (c *chance) saidClass() string {
	const marks = `\]^-`
	said := "["
	if c.below(3) == 0 {
		said += "^"
	}
	for range c.below(4) {
		from, to := int(c.byte()), int(c.byte())
		said += c.saidByte(byte(min(from, to)), marks)
		if c.below(2) == 0 {
			said += "-" + c.saidByte(byte(max(from, to)), marks)
		}
	}
	return said + "]"
}

// saidPattern is a pattern without a plan, with ( ) so deep at most.
func (c *chance) saidPattern(deep int) string {
	said := ""
	for range c.below(6) {
		switch kind := c.below(12); {
		case kind == 0:
			said += "|"
			continue
		case kind < 4 && deep > 0:
			said += "(" + c.saidPattern(deep-1) + ")"
		case kind == 4:
			said += "."
		case kind < 7:
			said += c.saidClass()
		default:
			said += c.saidByte(c.byte(), `&!|*+?{}[]().\`)
		}
		switch c.below(9) {
		case 0:
			said += string([]byte{c.pick("*+?")})
		case 1:
			said += fmt.Sprintf("{%d}", c.below(10))
		case 2:
			m := c.below(10)
			said += fmt.Sprintf("{%d,%d}", m, m+c.below(10-m))
		}
	}
	return said
}

// saidText is a constraint without a plan, nearly always one that is not too long.
func (c *chance) saidText() string {
	var parts []string
	for range 1 + c.below(3) {
		parts = append(parts, strings.Repeat("!", c.below(12)/8*c.below(4))+c.saidPattern(3))
	}
	return strings.Join(parts, "&")
}

// spoilt is s with one to three bytes left out, put in or made others.
func (c *chance) spoilt(s string) string {
	for range 1 + c.below(3) {
		i := c.below(len(s) + 1)
		switch kind := c.below(4); {
		case kind == 0:
			s = s[:i] + string([]byte{c.byte()}) + s[i:]
		case i == len(s):
		case kind == 1:
			s = s[:i] + s[i+1:]
		case kind == 2:
			s = s[:i] + string([]byte{c.byte()}) + s[i+1:]
		case c.below(4) == 0:
			s = s[:i]
		}
	}
	return s
}

// plant is one without a plan, with at most so many nodes.
func (c *chance) plant(most int) plant {
	switch kind := c.below(10); {
	case most < 2 || kind == 0:
		switch c.below(8) {
		case 0:
			return empty()
		case 1:
			return set(octets.All())
		case 2:
			return set(octets.Range(c.byte(), c.byte()))
		case 3:
			return set(octets.Not(octets.Of(c.byte(), c.byte())))
		case 4:
			return set(octets.Of(c.byte(), c.byte(), c.pick(`\]^-`)))
		}
		return one(c.byte())
	case most < 3 || kind < 4:
		least := c.below(10)
		switch c.below(3) {
		case 0:
			return times(c.plant(most-1), c.below(2), -1)
		case 1:
			return times(c.plant(most-1), least, least)
		}
		return times(c.plant(most-1), least, least+c.below(10-least))
	case kind < 7:
		ahead := 1 + c.below(most-2)
		return seq(c.plant(ahead), c.plant(most-1-ahead))
	}
	ahead := 1 + c.below(most-2)
	return alt(c.plant(ahead), c.plant(most-1-ahead))
}

// all calls do with each text of n of these bytes at most.
func all(n int, bytes string, do func(s string)) {
	var grow func(ahead string, n int)
	grow = func(ahead string, n int) {
		do(ahead)
		if n == 0 {
			return
		}
		for i := range len(bytes) {
			grow(ahead+bytes[i:i+1], n-1)
		}
	}
	grow("", n)
}

// P7.1: the chapter's examples.
func TestExamples(t *testing.T) {
	dot := set(octets.All())
	readOne(t, "a", one('a'))
	readOne(t, "()", empty())
	readOne(t, "", empty())
	read(t, "!a&b*", part{one('a'), true}, part{times(one('b'), 0, -1), false})
	for s, at := range map[string]int{"a**": 2, "a|*": 2, "(a": 2, "a)": 1, "[a-]": 3, "[z-a]": 3, "a{2,1}": 4, `a\q`: 1, "!a!b": 2} {
		refuse(t, s, at, api.ErrForm)
	}
	readOne(t, `[^\x00-\x20]{2}`, times(set(octets.Range(0x21, 0xff)), 2, 2))
	readOne(t, "[]", set(api.Set{}))
	readOne(t, `\.|.`, alt(one('.'), dot))
	refuse(t, strings.Repeat("a", 201), 200, api.ErrLong)
	refuse(t, strings.Repeat("a{9}", 8), 32, api.ErrLong)
}

// P7.1: which tree it is, and how its nodes are numbered.
func TestTrees(t *testing.T) {
	a, b, c := one('a'), one('b'), one('c')
	for s, p := range map[string]plant{
		"abc":         seq(seq(a, b), c),
		"a(bc)":       seq(a, seq(b, c)),
		"(ab)c":       seq(seq(a, b), c),
		"((ab)c)":     seq(seq(a, b), c),
		"a|b|c":       alt(alt(a, b), c),
		"a|(b|c)":     alt(a, alt(b, c)),
		"ab|bc":       alt(seq(a, b), seq(b, c)),
		"a(b|c)a":     seq(seq(a, alt(b, c)), a),
		"|":           alt(empty(), empty()),
		"a|":          alt(a, empty()),
		"|a":          alt(empty(), a),
		"||":          alt(alt(empty(), empty()), empty()),
		"(|)":         alt(empty(), empty()),
		"(a|)b":       seq(alt(a, empty()), b),
		"()()":        seq(empty(), empty()),
		"a()":         seq(a, empty()),
		"()*":         times(empty(), 0, -1),
		"ab*c":        seq(seq(a, times(b, 0, -1)), c),
		"(ab)*":       times(seq(a, b), 0, -1),
		"(a|b)+c":     seq(times(alt(a, b), 1, -1), c),
		"((a*)+)?":    times(times(times(a, 0, -1), 1, -1), 0, 1),
		"a{0}":        times(a, 0, 0),
		"a{0,1}":      times(a, 0, 1),
		"a{1}":        times(a, 1, 1),
		"a{9,9}":      times(a, 9, 9),
		"a{2,7}b":     seq(times(a, 2, 7), b),
		"[ab]*":       times(set(octets.Of('a', 'b')), 0, -1),
		".{3}":        times(set(octets.All()), 3, 3),
		`\**`:         times(one('*'), 0, -1),
		`\{1\}`:       seq(seq(one('{'), one('1')), one('}')),
		"-^,x":        seq(seq(seq(one('-'), one('^')), one(',')), one('x')),
		"1,2":         seq(seq(one('1'), one(',')), one('2')),
		"[a]b":        seq(a, b),
		`\x61b`:       seq(a, b),
		`\x616`:       seq(a, one('6')),
		`\\x61`:       seq(seq(seq(one('\\'), one('x')), one('6')), one('1')),
		"\x00\xff\n ": seq(seq(seq(one(0), one(255)), one('\n')), one(' ')),
		"é":           seq(one(0xc3), one(0xa9)),
	} {
		readOne(t, s, p)
	}
	y, at, e := rex.Parse("!a(b|c){2,3}|&d")
	want := api.Tree{
		Nodes: []api.Node{
			{Kind: api.NSet, Set: octets.Of('a')},
			{Kind: api.NSet, Set: octets.Of('b')},
			{Kind: api.NSet, Set: octets.Of('c')},
			{Kind: api.NAlt, A: 1, B: 2},
			{Kind: api.NTimes, A: 3, Min: 2, Max: 3},
			{Kind: api.NSeq, A: 0, B: 4},
			{Kind: api.NEmpty},
			{Kind: api.NAlt, A: 5, B: 6},
			{Kind: api.NSet, Set: octets.Of('d')},
		},
		Parts: []api.Part{{Root: 7, Not: true}, {Root: 8}},
	}
	if at != 0 || e != api.OK || !same(y, want) {
		t.Errorf("%v, %d at %d", y, e, at)
	}
}

// P7.1: parts, and which of them say Not.
func TestParts(t *testing.T) {
	a, b := part{one('a'), false}, part{one('b'), false}
	nots := func(n int) part { return part{one('a'), n%2 == 1} }
	for n := range 10 {
		read(t, strings.Repeat("!", n)+"a", nots(n))
		read(t, strings.Repeat("!", n)+"a&b&"+strings.Repeat("!", 9-n)+"a", nots(n), b, nots(9-n))
	}
	read(t, strings.Repeat("!", 199)+"a", nots(199))
	read(t, strings.Repeat("!", 200), part{empty(), false})
	read(t, "!", part{empty(), true})
	read(t, "&", part{empty(), false}, part{empty(), false})
	read(t, "a&!", a, part{empty(), true})
	read(t, "!a|b&a", part{alt(a.root, b.root), true}, a)
	read(t, "!(a)&b", nots(1), b)
	read(t, `\!a&\&`, part{seq(one('!'), one('a')), false}, part{one('&'), false})
	read(t, "[&!]&a", part{set(octets.Of('&', '!')), false}, a)
}

// P7.1: each byte by itself, behind a backslash, and by its digits; alone and in a class.
func TestBytes(t *testing.T) {
	const marks, inMarks = `&!|*+?{}[]().\`, `\]^-`
	for c := range 256 {
		b := string([]byte{byte(c)})
		p := one(byte(c))
		switch {
		case strings.Contains("&!|.", b): // these have a meaning of their own, and alone are a text
			holds(t, b)
			readOne(t, `\`+b, p)
		case strings.IndexByte(marks, byte(c)) >= 0:
			if holds(t, b) {
				t.Errorf("%q alone is read", b)
			}
			readOne(t, `\`+b, p)
		default:
			readOne(t, b, p)
			readOne(t, b+b+"?", seq(p, times(p, 0, 1)))
			refuse(t, `\`+b, 0, api.ErrForm)
			refuse(t, `aa\`+b+"!a", 2, api.ErrForm)
		}
		if strings.IndexByte(inMarks, byte(c)) >= 0 {
			readOne(t, `[\`+b+`]`, p)
			readOne(t, `[^\`+b+`]`, set(octets.Not(octets.Of(byte(c)))))
			holds(t, "["+b+"]")
			holds(t, "[a"+b+"]")
			holds(t, "[a-"+b+"]")
		} else {
			readOne(t, "["+b+"]", p)
			readOne(t, "[^"+b+"]", set(octets.Not(octets.Of(byte(c)))))
			refuse(t, `[\`+b+`]`, 1, api.ErrForm)
			refuse(t, `[a-\`+b+`]`, 3, api.ErrForm)
		}
		for _, form := range []string{`\x%02x`, `\x%02X`, `[\x%02x]`, `[\x%02X]`, `(\x%02x)`} {
			readOne(t, fmt.Sprintf(form, c), p)
		}
	}
	for high := range 256 {
		for low := range 256 {
			holds(t, `\x`+string([]byte{byte(high), byte(low)}))
			holds(t, `[\x`+string([]byte{byte(high), byte(low)})+"]")
		}
	}
}

// P7.1: each range.
func TestRanges(t *testing.T) {
	for from := range 256 {
		for to := range 256 {
			s := fmt.Sprintf(`[\x%02x-\x%02X]`, from, to)
			if from > to {
				refuse(t, s, 6, api.ErrForm)
				continue
			}
			y, _, e := rex.Parse(s)
			if e != api.OK || len(y.Nodes) != 1 {
				t.Fatalf("%s: %v, %d", s, y, e)
			}
			for c := range 256 {
				if octets.Has(y.Nodes[0].Set, byte(c)) != (from <= c && c <= to) {
					t.Fatalf("%s: the byte %d", s, c)
				}
			}
			holds(t, string([]byte{'a', '[', byte(from), '-', byte(to), ']'}))
		}
	}
}

// P7.1: classes, written down.
func TestClasses(t *testing.T) {
	for s, want := range map[string]api.Set{
		"[^]":            octets.All(),
		"[abc]":          octets.Range('a', 'c'),
		"[cab]":          octets.Range('a', 'c'),
		"[aa]":           octets.Of('a'),
		"[a-a]":          octets.Of('a'),
		"[a-cb-d]":       octets.Range('a', 'd'),
		"[a-cx-z5]":      octets.Or(octets.Of('5', 'x', 'y', 'z'), octets.Range('a', 'c')),
		"[^a-cx]":        octets.Not(octets.Of('a', 'b', 'c', 'x')),
		`[\^a]`:          octets.Of('^', 'a'),
		`[a\^]`:          octets.Of('^', 'a'),
		`[\--\\]`:        octets.Range('-', '\\'),
		`[+-\-]`:         octets.Range('+', '-'),
		`[\]-\^]`:        octets.Of(']', '^'),
		`[\\]`:           octets.Of('\\'),
		`[[]`:            octets.Of('['),
		`[[.*+?(){}|&!]`: octets.Of([]byte("[.*+?(){}|&!")...),
		`[.]`:            octets.Of('.'),
		`[\x2d-\x2F]`:    octets.Range('-', '/'),
		`[\x5d\x5e]`:     octets.Of(']', '^'),
		`[\x410]`:        octets.Of('A', '0'),
		"[\x00-\xff]":    octets.All(),
		"[^\x00-\xff]":   {},
		"[ \t\n]":        octets.Of(' ', '\t', '\n'),
		"[^!]":           octets.Not(octets.Of('!')),
	} {
		readOne(t, s, set(want))
	}
}

// P7.1: how often, each byte in each place.
func TestTimes(t *testing.T) {
	for m := range 10 {
		readOne(t, fmt.Sprintf("a{%d}", m), times(one('a'), m, m))
		for n := range 10 {
			s := fmt.Sprintf("a{%d,%d}", m, n)
			if n < m {
				refuse(t, s, 4, api.ErrForm)
				refuse(t, s[:5], 4, api.ErrForm)
			} else {
				readOne(t, s, times(one('a'), m, n))
			}
		}
	}
	for _, s := range []string{"a{1}", "a{3,5}", "(a){2,2}b", "[a]{0}*", "a*", "a+b", "(a?)"} {
		for i := range s {
			for c := range 256 {
				holds(t, s[:i]+string([]byte{byte(c)})+s[i+1:])
				holds(t, s[:i]+string([]byte{byte(c)})+s[i:])
			}
			holds(t, s[:i])
			holds(t, s[:i]+s[i+1:])
		}
	}
}

// P7.1: where it goes wrong, written down.
func TestWrong(t *testing.T) {
	for s, at := range map[string]int{
		"*": 0, "+": 0, "?": 0, "{1}": 0, "}": 0, "]": 0, ")": 0, "|*": 1, "&*": 1, "!*": 1, "(*)": 1, "a|+": 2, "a&?": 2,
		"a*+": 2, "a*?": 2, "a*{1}": 2, "a{1}*": 4, "a{1}{1}": 4, "()**": 3,
		"a{": 2, "a{1": 3, "a{1,": 4, "a{1,2": 5, "a{}": 2, "a{,2}": 2, "a{1,}": 4, "a{12}": 3, "a{1,23}": 5, "a{x}": 2, "a{-1}": 2, "a{ 1}": 2, "a{1 }": 3, "a{1;2}": 3, "a{9,8": 4, "a{9,8x": 4,
		"(": 1, "((": 2, "(()": 3, "(a|": 3, "a(b": 3, "())": 2, "a))": 1, "(a&b)": 2, "(&": 1, "(!a)": 1, "a!": 1, "a|!b": 2, "!!a!": 3, "&a!": 2,
		"[": 1, "[^": 2, "[a": 2, "[a-": 3, "[a-b": 4, "[-": 1, "[-a]": 1, "[^-a]": 2, "[a-b-c]": 4, "[a--]": 3, "[a-^]": 3, "[^^]": 2, "[a^]": 2, "[]]": 2, "[a]]": 3, "[z-a": 3, "[^z-a]": 4, "[az-a]": 4, "[b-aa-]": 3,
		`\`: 0, `a\`: 1, `\x`: 0, `\x4`: 0, `\xg0`: 0, `\x0g`: 0, `\X41`: 0, `\a`: 0, `\^`: 0, `\-`: 0, `\,`: 0, `aa\x4`: 2, `\x41\x`: 4, `(\x4)`: 1,
		`[\`: 1, `[\x`: 1, `[\x4`: 1, `[\x4]`: 1, `[\x4g]`: 1, `[\a]`: 1, `[\[]`: 1, `[\&]`: 1, `[^\`: 2, `[a\`: 2, `[a-\`: 3, `[a-\x6`: 3, `[a-\x6]`: 3, `[a-\x60]`: 3, `[\x61-\x60]`: 6, `[\x61-\]]`: 6, `[\x61`: 5,
	} {
		refuse(t, s, at, api.ErrForm)
		holds(t, s)
	}
}

// P7.1: what is too long, at its edges, and which of several errors is told.
func TestLong(t *testing.T) {
	again := strings.Repeat
	for _, x := range []struct {
		s  string
		at int
		e  api.Errno
	}{
		{again("!", 200), 0, api.OK},
		{again("!", 201), 200, api.ErrLong},
		{again("|", 200), 0, api.OK},
		{again("|", 201), 200, api.ErrLong},
		{again("a", 300), 200, api.ErrLong},
		{again("a", 1<<20), 200, api.ErrLong},
		{"*" + again("a", 200), 200, api.ErrLong},
		{"*" + again("a", 199), 0, api.ErrForm},
		{again("&", 20) + again("a", 181), 200, api.ErrLong},
		{again("&", 20) + again("a", 180), 19, api.ErrLong},
		{again("|", 199) + "(", 200, api.ErrForm},
		{again("|", 199) + `\`, 199, api.ErrForm},

		{again("(", 16) + again(")", 16), 0, api.OK},
		{again("(", 17) + again(")", 17), 16, api.ErrLong},
		{again("(", 17), 16, api.ErrLong},
		{again("(", 16), 16, api.ErrForm},
		{again("(", 200), 16, api.ErrLong},
		{again("()", 100), 0, api.OK},
		{again("(", 16) + again("a)", 16) + again("(", 16) + again("|)", 16), 0, api.OK},
		{again("(", 16) + ")(" + again(")", 16), 0, api.OK},
		{again("(", 16) + ")((" + again(")", 17), 18, api.ErrLong},
		{again("(", 16) + `\([(]` + again(")", 16), 0, api.OK},
		{"*" + again("(", 17), 0, api.ErrForm},
		{again("(", 17) + "*", 16, api.ErrLong},
		{again("(", 16) + "*", 16, api.ErrForm},
		{"a&" + again("(", 16) + again(")", 16) + "&" + again("(", 17), 51, api.ErrLong},

		{again("&", 19), 0, api.OK},
		{again("&", 20), 19, api.ErrLong},
		{again("&", 200), 19, api.ErrLong},
		{again("!a&", 19) + "a", 0, api.OK},
		{again("!a&", 20) + "a", 59, api.ErrLong},
		{again("a&", 20), 39, api.ErrLong},
		{again("a&", 19) + "*", 38, api.ErrForm},
		{"*" + again("&", 20), 0, api.ErrForm},
		{again("&", 20) + "*", 19, api.ErrLong},
		{again("&", 19) + "(&", 20, api.ErrForm},
		{again("&", 19) + `\&[&]`, 0, api.OK},

		{again("a", 63), 0, api.OK},
		{again("a", 64), 64, api.ErrLong},
		{again(".", 64), 64, api.ErrLong},
		{again("[]", 64), 128, api.ErrLong},
		{again("a|", 63), 0, api.OK},
		{again("a|", 64), 128, api.ErrLong},
		{again("a", 64) + "*", 65, api.ErrLong},
		{again("a", 64) + "**", 65, api.ErrForm},
		{again("a", 64) + "(", 65, api.ErrForm},
		{again("a", 64) + again("&", 20), 83, api.ErrLong},
		{again("a", 64) + again("(", 17), 80, api.ErrLong},
		{again("a", 62) + "&a", 0, api.OK},
		{again("a", 63) + "&a", 65, api.ErrLong},
		{again("a", 63) + "&!a", 66, api.ErrLong},
		{again("a", 63) + "&()", 0, api.OK},
		{again("a{9}", 7), 0, api.OK},
		{again("a{9}", 7) + "a", 29, api.ErrLong},
		{again("a{0,9}", 7), 0, api.OK},
		{again("a{0,9}", 8), 48, api.ErrLong},
		{again("a{0}", 50), 0, api.OK},
		{again("a*", 63), 0, api.OK},
		{again("a*", 64), 128, api.ErrLong},
		{"(" + again("a", 63) + "){0}", 0, api.OK},
		{"(" + again("a", 64) + "){0}", 0, api.OK},
		{"(" + again("a", 64) + "){1}", 69, api.ErrLong},
		{"((aaaaaaa){3}){3}", 0, api.OK},
		{"((aaaaaaaa){8})", 15, api.ErrLong},
		{again("(", 16) + "a" + again("{9})", 16), 81, api.ErrLong},
		{again("()", 100), 0, api.OK},
		{again("(){9}", 40), 0, api.OK},
	} {
		y, at, e := rex.Parse(x.s)
		if at != x.at || e != x.e || tree.Right(y) != (e == api.OK) || e != api.OK && len(y.Nodes)+len(y.Parts) > 0 {
			t.Errorf("Parse(%.120q): %d at %d, not %d at %d", x.s, e, at, x.e, x.at)
		}
		holds(t, x.s)
	}
}

// P7.1, P7.2: all short texts of some bytes, against the model.
func TestShort(t *testing.T) {
	for _, x := range []struct {
		most                 int
		ahead, bytes, behind string
		right                int // how many are right at least
	}{
		{6, "", "a|()*&!", "", 5000},
		{5, "", "a.*+?{1}", "", 500},
		{5, "a{", "0129,}a", "", 5},
		{5, "(a){", "19,}|*)", "", 5},
		{5, "[", `ab\]^-x`, "", 100},
		{5, "[a", `ab\]^-x`, "", 100},
		{5, "[^", `z-\x07]`, "", 100},
		{5, "[b-", `ac\x6]-`, "", 20},
		{6, "[", `b-\x61]`, "]", 100},
		{5, `\`, `x4aAgG&\`, "", 100},
		{5, `a\x`, `09afFg`, "", 1000},
		{3, "", "&!|*+?{}[]().\\^-,xa0", "", 50},
		{3, "(", "&!|*+?{}[]().\\^-,xa0", ")", 50},
		{6, "((((((((((((((", "()a", "))))))))))))))", 20},
		{6, "&&&&&&&&&&&&&&&&&&", "&(!a)", "", 20},
		{6, strings.Repeat("a", 60), "a&{2}|", "", 100},
	} {
		right := 0
		all(x.most, x.bytes, func(s string) {
			if holds(t, x.ahead+s+x.behind) {
				right++
			}
		})
		if right < x.right {
			t.Errorf("of the texts %q %q %q only %d were right", x.ahead, x.bytes, x.behind, right)
		}
	}
}

// P7.1, P7.2: texts without a plan, right and spoilt, against the model.
func TestAnything(t *testing.T) {
	c := chance(1)
	right, wrong := 0, 0
	for range 30000 {
		s := c.saidText()
		for _, s := range []string{s, c.spoilt(s)} {
			if holds(t, s) {
				right++
			} else {
				wrong++
			}
		}
	}
	for range 30000 {
		s := make([]byte, c.below(12))
		for i := range s {
			s[i] = c.byte()
		}
		holds(t, string(s))
	}
	if right < 20000 || wrong < 10000 {
		t.Errorf("%d were right, %d not", right, wrong)
	}
}

// P7.2: each right tree whose print is not too long is read from it.
func TestPrinted(t *testing.T) {
	c := chance(2)
	short, long := 0, 0
	for range 30000 {
		parts := make([]part, 1+c.below(3))
		if c.below(20) == 0 {
			parts = make([]part, 20)
		}
		for i := range parts {
			parts[i] = part{c.plant(1 + c.below(16)), c.below(3) == 0}
		}
		if again(t, lay(parts...)) {
			short++
		} else {
			long++
		}
	}
	if short < 15000 || long < 500 {
		t.Errorf("%d were not too long, %d were", short, long)
	}
}

// P7.2: the deepest trees that can be read, and the first that can't.
func TestDeep(t *testing.T) {
	wide := one('a')
	for range 62 {
		wide = alt(wide, one('b'))
	}
	if !again(t, lay(part{wide, false})) {
		t.Errorf("63 branches are not read")
	}
	row := one('a')
	for n := 1; n <= 18; n++ {
		row = seq(one('a'), row)
		if got, want := again(t, lay(part{row, false})), n <= 17; got != want {
			t.Errorf("%s: read %v", tree.Print(lay(part{row, false})), got)
		}
	}
	// An empty word is printed with ( ) of its own: 16 around it are one too many.
	odd := "(|)*"
	for range 15 {
		odd = "(" + odd + ")*"
	}
	holds(t, odd)
}

// P7.2: what is told of a place is told of each text that begins so, and is not longer than a text may be.
func TestBeginnings(t *testing.T) {
	c := chance(3)
	held := 0
	for range 30000 {
		s := c.spoilt(c.saidText())
		if c.below(4) == 0 {
			s = strings.Repeat([]string{"(", "&", "(a|", "!&", "a&"}[c.below(5)], 20) + s
		}
		_, at, e := rex.Parse(s)
		if e == api.OK || at >= len(s) || at >= 200 || s[at] == '\\' {
			continue
		}
		held++
		for range 5 {
			more := s[:at+1]
			for range c.below(201 - len(more)) {
				more += string([]byte{c.byte()})
			}
			if _, gotAt, got := rex.Parse(more); gotAt != at || got != e {
				t.Fatalf("Parse(%q): %d at %d, though %q is %d at %d", more, got, gotAt, s, e, at)
			}
		}
		if _, _, got := rex.Parse(s[:at]); got != api.OK && got != api.ErrForm && got != api.ErrLong {
			t.Fatalf("Parse(%q): %d", s[:at], got)
		}
	}
	if held < 5000 {
		t.Errorf("only %d were held against others", held)
	}
}

// R3, R4: what is told is told again, and no two answers share memory.
func TestNothingChanges(t *testing.T) {
	for _, s := range []string{"", "a", "!a(b|c)*&[^x]{2,3}", "&&&", strings.Repeat("|", 200)} {
		y, _, _ := rex.Parse(s)
		z, _, _ := rex.Parse(s)
		for i := range y.Nodes[:cap(y.Nodes)] {
			y.Nodes[:cap(y.Nodes)][i] = api.Node{Kind: 9, A: -1}
		}
		for i := range y.Parts[:cap(y.Parts)] {
			y.Parts[:cap(y.Parts)][i] = api.Part{Root: -1, Not: true}
		}
		x, at, e := rex.Parse(s)
		if !same(x, z) || at != 0 || e != api.OK || !same(z, lay(grow(s)...)) {
			t.Errorf("%q: %v and %v", s, x, z)
		}
	}
}
