package seek_test

import (
	"fmt"
	"slices"
	"strings"
	"testing"

	"shibboleth/api"
	"shibboleth/classes"
	"shibboleth/dfa"
	"shibboleth/mini"
	"shibboleth/nfa"
	"shibboleth/octets"
	"shibboleth/seek"
)

// P13.1 to P13.3: the chapter's examples.
func TestExamples(t *testing.T) {
	if !seek.Less("b", "ab") || seek.Less("ab", "b") || !seek.Less("ab", "ac") || seek.Less("a", "a") {
		t.Errorf("Less")
	}
	d := masked(t, "a|bc")
	if w, ok := seek.Word(d); w != "a" || !ok || seek.Empty(d) {
		t.Errorf("Word: %q, %v", w, ok)
	}
	n, _ := dfa.Not(d)
	if w, ok := seek.Word(n); w != "" || !ok || seek.Empty(n) {
		t.Errorf("Word of what it does not take: %q, %v", w, ok)
	}
	m := example()
	if w, ok := seek.Path(m); w != "" || !ok {
		t.Errorf("Path: %q, %v", w, ok)
	}
	m.Empty = false
	if w, ok := seek.Path(m); w != "ab" || !ok {
		t.Errorf("Path with Empty false: %q, %v", w, ok)
	}
}

// P13.1: texts in shortlex, each held against each.
func TestLess(t *testing.T) {
	row := []string{
		"", "\x00", "\x01", "0", "A", "Z", "a", "z", "\x7f", "\x80", "\xc3", "\xff",
		"\x00\x00", "\x00\xff", "\x01\x00", "a\x00", "aa", "ab", "a\xff", "ba", "\x7f\xff", "\x80\x00", "\u00e9", "\xff\x00", "\xff\xfe", "\xff\xff",
		"\x00\x00\x00", "aaa", "aab", "aba", "abb", "baa", "\u20ac", "\xff\xff\xff", "\x00\x00\x00\x00", strings.Repeat("a", 300), strings.Repeat("a", 299) + "b", "b" + strings.Repeat("a", 299), strings.Repeat("\x00", 301),
	}
	for i, a := range row {
		for j, b := range row {
			if seek.Less(a, b) != (i < j) {
				t.Errorf("%q, %q: %v", a, b, i >= j)
			}
		}
	}
}

// P13.1: all pairs of bytes, alone and within texts; and all pairs of short words.
func TestLessAll(t *testing.T) {
	for x := range 256 {
		for y := range 256 {
			a, b := string([]byte{byte(x)}), string([]byte{byte(y)})
			// What stands behind the bytes matters only where they are the same.
			if seek.Less(a, b) != (x < y) || seek.Less("m"+a+"z", "m"+b+"y") != (x < y) || seek.Less("m"+a+"y", "m"+b+"z") != (x <= y) || seek.Less(a+a, b) {
				t.Fatalf("%q, %q", a, b)
			}
		}
	}
	row := words(4, 0, 'a', 0x80, 0xff)
	for i, a := range row {
		for j, b := range row {
			if seek.Less(a, b) != (i < j) {
				t.Fatalf("%q, %q: %v", a, b, i >= j)
			}
		}
	}
}

// P13.1: long texts.
func TestLessLong(t *testing.T) {
	long := strings.Repeat("\xff", 1<<20)
	if seek.Less(long, long) || seek.Less(long, strings.Repeat("\xff", 1<<20)) || !seek.Less(long, strings.Repeat("\x00", 1<<20+1)) || seek.Less(strings.Repeat("\x00", 1<<20+1), long) || !seek.Less(long[1:]+"\xfe", long) || seek.Less(long, long[1:]+"\xfe") {
		t.Errorf("long texts")
	}
}

// P13.2: words of automata, written down.
func TestWord(t *testing.T) {
	one, a := classes.Refine(), onlyA()
	high := classes.Refine(octets.Range(0x80, 0xff), octets.Of(0xff))
	for _, x := range []struct {
		name string
		d    dfa.DFA
		want string
		ok   bool
	}{
		{"all", dfa.DFA{Part: one, Next: [][]int{{0}}, Final: []bool{true}}, "", true},
		{"nothing", dfa.DFA{Part: one, Next: [][]int{{0}}, Final: []bool{false}}, "", false},
		{"any byte", dfa.DFA{Part: one, Next: [][]int{{1}, {1}}, Final: []bool{false, true}}, "\x00", true},
		{"any three bytes", dfa.DFA{Part: one, Next: [][]int{{1}, {2}, {3}, {3}}, Final: []bool{false, false, false, true}}, "\x00\x00\x00", true},
		{"a state that is not reached", dfa.DFA{Part: one, Next: [][]int{{0}, {1}}, Final: []bool{false, true}}, "", false},
		{"final states that are not reached", dfa.DFA{Part: a, Next: [][]int{{1, 1}, {0, 1}, {2, 3}, {0, 1}}, Final: []bool{false, false, true, true}}, "", false},
		{"numbered from behind", dfa.DFA{Part: a, Next: [][]int{{0, 3}, {1, 1}, {0, 1}, {0, 2}}, Final: []bool{false, true, false, false}}, "aaa", true},
		{"no a", dfa.DFA{Part: a, Next: [][]int{{1, 0}, {1, 1}}, Final: []bool{false, true}}, "\x00", true},
		{"the shorter one is greater", dfa.DFA{Part: a, Next: [][]int{{1, 2}, {2, 1}, {2, 2}}, Final: []bool{false, false, true}}, "a", true},
		{"two ways of one length", dfa.DFA{Part: a, Next: [][]int{{2, 1}, {3, 3}, {0, 3}, {3, 3}}, Final: []bool{false, false, false, true}}, "\x00a", true},
		{"the end that comes last is lesser", dfa.DFA{Part: a, Next: [][]int{{3, 1}, {2, 2}, {2, 2}, {4, 4}, {4, 4}}, Final: []bool{false, false, true, false, true}}, "\x00\x00", true},
		{"a loop first", dfa.DFA{Part: a, Next: [][]int{{0, 1}, {0, 2}, {2, 2}}, Final: []bool{false, false, true}}, "aa", true},
		{"high bytes", dfa.DFA{Part: high, Next: [][]int{{0, 1, 0}, {1, 1, 2}, {2, 2, 2}}, Final: []bool{false, false, true}}, "\x80\xff", true},
		{"a class of two bytes", dfa.DFA{Part: mixed(), Next: [][]int{{3, 3, 1, 3}, {3, 2, 3, 3}, {3, 3, 3, 4}, {3, 3, 3, 3}, {4, 4, 4, 4}}, Final: []bool{false, false, false, false, true}}, "ba\x80", true},
	} {
		if !dfa.Right(x.d) {
			t.Fatalf("%s: it is not right", x.name)
		}
		if w, ok := seek.Word(x.d); w != x.want || ok != x.ok || seek.Empty(x.d) == x.ok {
			t.Errorf("%s: %q, %v, Empty %v", x.name, w, ok, seek.Empty(x.d))
		}
		holdsWord(t, x.name, x.d)
	}
}

// P13.2: words of constraints, written down.
func TestWordConstraints(t *testing.T) {
	for _, x := range []struct {
		text, want string
		ok         bool
	}{
		{"", "", true}, {"a*", "", true}, {"!a", "", true}, {"!", "\x00", true}, {"!a*", "\x00", true}, {"!.?", "\x00\x00", true}, {"!.*", "", false}, {"[]", "", false}, {"a[]", "", false}, {"a&b", "", false}, {"a+&!a*", "", false},
		{"b|ab", "b", true}, {"cb|ca|d{3}", "ca", true}, {"zz|bc|ba|cab", "ba", true}, {`[b-d]|\xff`, "b", true}, {`\xff|[\x80-\x90]`, "\x80", true}, {"[^]{3}", "\x00\x00\x00", true}, {`[^\x00-\x09]`, "\n", true},
		{".*abc.*", "abc", true}, {".*b.*&.*a.*", "ab", true}, {".*b&.*c.*&!c.*", "\x00cb", true}, {"[bc]*&.*b.*c.*b.*c.*", "bcbc", true}, {"(a{6})+&(a{4})+", strings.Repeat("a", 12), true}, {"(a{9}){7}", strings.Repeat("a", 63), true}, {"(a{7})+&(a{5})+&!(a{7}){5}", strings.Repeat("a", 70), true},
		{"(a|b)*a(a|b){4}&!.*aa.*", "ababa", true}, {"!(.{9}){0,1}&!.{1,8}", strings.Repeat("\x00", 10), true},
	} {
		d := masked(t, x.text)
		if w, ok := seek.Word(d); w != x.want || ok != x.ok || seek.Empty(d) == x.ok {
			t.Errorf("%s: %q, %v, Empty %v", x.text, w, ok, seek.Empty(d))
		}
	}
}

// P13.2: of single bytes each is told apart; of a class the least byte is told.
func TestWordBytes(t *testing.T) {
	for c := range 256 {
		want := string([]byte{byte(c)})
		d := dfa.DFA{Part: single(), Next: [][]int{make([]int, 256), make([]int, 256)}, Final: []bool{false, true}}
		d.Next[0][c] = 1
		if w, ok := seek.Word(d); w != want || !ok {
			t.Fatalf("%q: %q, %v", want, w, ok)
		}
		d.Next[0][255] = 1
		if w, ok := seek.Word(d); w != want || !ok {
			t.Fatalf("%q, or the last one: %q, %v", want, w, ok)
		}
		p := classes.Refine(octets.Or(octets.Of(byte(c)), octets.Range(byte(c), 255)))
		d = dfa.DFA{Part: p, Next: [][]int{make([]int, p.N), make([]int, p.N)}, Final: []bool{false, true}}
		d.Next[0][p.Of[c]] = 1
		if w, ok := seek.Word(d); w != want || !ok {
			t.Fatalf("%q, or greater: %q, %v", want, w, ok)
		}
	}
}

// small are all automata of the partition with so many states.
func small(p classes.Part, many int) []dfa.DFA {
	lists := [][]int{nil}
	for range p.N {
		var more [][]int
		for _, list := range lists {
			for to := range many {
				more = append(more, append(slices.Clone(list), to))
			}
		}
		lists = more
	}
	all := []dfa.DFA{{Part: p}}
	for range many {
		var more []dfa.DFA
		for _, d := range all {
			for _, list := range lists {
				for _, final := range []bool{false, true} {
					more = append(more, dfa.DFA{Part: p, Next: append(slices.Clone(d.Next), list), Final: append(slices.Clone(d.Final), final)})
				}
			}
		}
		all = more
	}
	return all
}

// P13.2, P13.4: all small automata, by the words that they take.
func TestWordSmall(t *testing.T) {
	for _, x := range []struct {
		p    classes.Part
		most int
	}{{classes.Refine(), 4}, {onlyA(), 3}, {letters(), 2}} {
		tried := words(x.most, 0, 'a', 'b', 'c', 'd')
		for many := 1; many <= x.most; many++ {
			for _, d := range small(x.p, many) {
				w, ok := seek.Word(d)
				want, some := first(tried, func(w string) bool { return dfa.Run(d, w) })
				if w != want || ok != some || seek.Empty(d) == some || some && len(w) >= many {
					t.Fatalf("%v, %v: %q, %v, not %q, %v", d.Next, d.Final, w, ok, want, some)
				}
			}
		}
	}
}

// P13.2: Word against the model, of automata without a plan.
func TestWordModel(t *testing.T) {
	plan := chance(1)
	bytes, none := 0, 0
	for i := range 1200 {
		p := []classes.Part{classes.Refine(), onlyA(), letters(), mixed()}[i%4]
		d := plan.automaton(p, 1+plan.below(20), 1+plan.below(25))
		if i%2 == 0 {
			d = plan.shuffled(plan.far(p, 3+plan.below(30)))
		}
		bytes += len(holdsWord(t, "without a plan", d))
		if seek.Empty(d) {
			none++
		}
	}
	// Else the automata would not be worth trying.
	if bytes < 3000 || none < 100 {
		t.Errorf("%d bytes, %d without a word", bytes, none)
	}
	for i := range 8 {
		holdsWord(t, "single bytes", plan.shuffled(plan.far(single(), 20+5*i)))
	}
}

// P13.4: what is told is taken; the texts that are lesser are, all together, not.
func TestWordNoLesser(t *testing.T) {
	plan := chance(2)
	held := 0
	for i := range 60 {
		d := plan.far([]classes.Part{onlyA(), letters(), mixed()}[i%3], 3+plan.below(12))
		if i%4 == 0 {
			d = masked(t, []string{"(a{3})+&(a{5})+", "!a*&!.?b.*", ".*ca.*b.*&[a-c]+", "(ab|c){3}&!.*b", "!(.{3}){0,4}"}[i/4%5])
		}
		w, ok := seek.Word(d)
		if !ok {
			continue
		}
		held++
		x, e := dfa.Both(spread(d), ahead(w), dfa.And, nil)
		if e != api.OK || !dfa.Run(d, w) || len(w) >= len(d.Next) || slices.Contains(x.Final, true) || !seek.Empty(x) {
			t.Fatalf("%v, %v: %q", d.Next, d.Final, w)
		}
		x, _ = dfa.Both(spread(d), upTo(w), dfa.And, nil)
		if v, ok := seek.Word(x); v != w || !ok {
			t.Fatalf("%v, %v: %q, not %q", d.Next, d.Final, v, w)
		}
	}
	if held < 40 {
		t.Errorf("%d have a word", held)
	}
}

// P13.2, P13.4: all words of a constraint, one behind the other: the least one is taken away, again and again.
func TestWordRow(t *testing.T) {
	d := spread(masked(t, "[ac]{0,3}|b(aa|c)?"))
	var row []string
	for _, w := range words(3, 'a', 'b', 'c') {
		if dfa.Run(d, w) {
			row = append(row, w)
		}
	}
	if len(row) != 18 {
		t.Fatalf("%q", row)
	}
	for _, want := range row {
		w, ok := seek.Word(d)
		if w != want || !ok || seek.Empty(d) {
			t.Fatalf("%q, %v, not %q", w, ok, want)
		}
		least, _ := mini.Least(d)
		if v, ok := seek.Word(least); v != want || !ok {
			t.Fatalf("the least automaton: %q, %v, not %q", v, ok, want)
		}
		// What is neither lesser nor the word itself is left.
		behind, _ := dfa.Not(upTo(w))
		d, _ = dfa.Both(d, behind, dfa.And, nil)
	}
	if w, ok := seek.Word(d); w != "" || ok || !seek.Empty(d) {
		t.Errorf("at the end: %q, %v", w, ok)
	}
}

// P13.2: great automata: it comes to an end soon.
func TestWordGreat(t *testing.T) {
	const many = 300000
	chain := dfa.DFA{Part: onlyA(), Final: make([]bool, many)}
	for s := range many {
		chain.Next = append(chain.Next, []int{0, min(s+1, many-1)})
	}
	if !seek.Empty(chain) {
		t.Errorf("a chain without an end")
	}
	chain.Final[many-1] = true
	if w, ok := seek.Word(chain); w != strings.Repeat("a", many-1) || !ok {
		t.Errorf("a chain: %d bytes, %v", len(w), ok)
	}
	plan := chance(3)
	if w, ok := seek.Word(plan.shuffled(chain)); w != strings.Repeat("a", many-1) || !ok {
		t.Errorf("a chain in no order: %d bytes, %v", len(w), ok)
	}
	chain.Next[0][0] = many / 2
	if w, ok := seek.Word(chain); w != "\x00"+strings.Repeat("a", many-1-many/2) || !ok {
		t.Errorf("a chain with a shorter way: %d bytes, %v", len(w), ok)
	}
	wide := plan.automaton(single(), 4000, 1)
	clear(wide.Final)
	if w, ok := seek.Word(wide); w != "" || ok {
		t.Errorf("many classes: %q", w)
	}
}

// P13.2: of one that is not right.
func TestWrong(t *testing.T) {
	for why, d := range wrong(t) {
		if w, ok := seek.Word(d); w != "" || ok || !seek.Empty(d) {
			t.Errorf("%s: %q, %v, Empty %v", why, w, ok, seek.Empty(d))
		}
	}
}

// P13.3: of one that is not right, whether it says Empty or not.
func TestWrongMachine(t *testing.T) {
	for why, m := range wrongMachines() {
		for _, empty := range []bool{false, true} {
			m.Empty = empty
			if w, ok := seek.Path(m); w != "" || ok {
				t.Errorf("%s, Empty %v: %q, %v", why, empty, w, ok)
			}
		}
	}
}

// P13.3: paths, written down.
func TestPath(t *testing.T) {
	none, noFirst, noLast, loop := row("abc"), row("abc"), row("abc"), full(20)
	none.Spots[1].Set = api.Set{}
	noFirst.First = nil
	noLast.Last = make([]bool, 3)
	loop.Last = make([]bool, 20)
	gap := row("abcd")
	gap.Spots[2].Set = api.Set{}
	gap.Follow[1] = []int{2, 3}
	dead := api.Machine{Spots: []api.Spot{spot("b"), spot("a"), spot(""), spot("z")}, First: []int{0, 1}, Follow: [][]int{{3}, {2}, {2, 3}, nil}, Last: []bool{false, false, true, true}}
	late := api.Machine{Spots: []api.Spot{spot("c"), spot("b"), spot("a"), spot("x")}, First: []int{0, 1, 2}, Follow: [][]int{{3}, {3}, {3}, nil}, Last: []bool{false, false, false, true}}
	back := api.Machine{Spots: []api.Spot{spot("y"), spot("a"), spot("b")}, First: []int{0}, Follow: [][]int{{0, 2}, {1}, {0, 1}}, Last: []bool{false, true, false}}
	emptied := row("a")
	emptied.Empty = true
	wide := row("abc")
	wide.Spots[0].Set, wide.Spots[1].Set, wide.Spots[2].Set = octets.Range('k', 0xff), octets.Of(0xff, 0x80), octets.All()
	for _, x := range []struct {
		name string
		m    api.Machine
		want string
		ok   bool
	}{
		{"zero", api.Machine{}, "", false},
		{"only Empty", api.Machine{Empty: true}, "", true},
		{"Empty, and more", emptied, "", true},
		{"one byte", row("a"), "a", true},
		{"bytes that are no letters", row("\x00\xff\x80\n"), "\x00\xff\x80\n", true},
		{"letters of UTF-8", row("\u00e9\u20ac"), "\u00e9\u20ac", true},
		{"a spot without a byte", none, "", false},
		{"nothing first", noFirst, "", false},
		{"nothing last", noLast, "", false},
		{"nothing last, round and round", loop, "", false},
		{"a way round a spot without a byte", gap, "abd", true},
		{"the lesser byte leads nowhere", dead, "bz", true},
		{"the lesser text comes last", late, "ax", true},
		{"back and forth", back, "yba", true},
		{"great sets", wide, "k\x80\x00", true},
		{"full", full(250), "\x00", true},
		{"the shorter one is greater", either(row("aa"), row("b"), row("aaa")), "b", true},
		{"one length", either(row("zz"), row("bc"), row("ba"), row("cab")), "ba", true},
		{"one is the beginning of the other", either(row("abc"), row("ab"), row("abcd")), "ab", true},
		{"told apart late", either(row("aaaaaab"), row("aaaaaac"), row("aaaaaaa"), row("aaaaabA")), "aaaaaaa", true},
	} {
		if w, ok := seek.Path(x.m); w != x.want || ok != x.ok {
			t.Errorf("%s: %q, %v", x.name, w, ok)
		}
		holdsPath(t, x.name, x.m)
	}
}

// P13.3: whatever a spot's set is, its least byte is told.
func TestPathBytes(t *testing.T) {
	for c := range 256 {
		for _, to := range []int{c, min(255, c+1), 255} {
			m := row("xy")
			m.Spots[0].Set, m.Spots[1].Set = octets.Range(byte(c), byte(to)), octets.Of(byte(c), byte(to))
			if w, ok := seek.Path(m); w != string([]byte{byte(c), byte(c)}) || !ok {
				t.Fatalf("from %d to %d: %q, %v", c, to, w, ok)
			}
		}
	}
}

// P13.3, P13.4: all machines of two spots, by the words that they take, and by their automata.
func TestPathSmall(t *testing.T) {
	sets := []string{"", "b", "ac"}
	lists := [][]int{nil, {0}, {1}, {0, 1}}
	tried := words(3, 'a', 'b', 'c')
	for i := range 9 * 4 * 4 * 4 * 4 * 2 {
		digit := func(of int) int {
			d := i % of
			i /= of
			return d
		}
		m := api.Machine{
			Spots:  []api.Spot{spot(sets[digit(3)]), spot(sets[digit(3)])},
			First:  lists[digit(4)],
			Follow: [][]int{lists[digit(4)], lists[digit(4)]},
			Last:   [][]bool{{false, false}, {false, true}, {true, false}, {true, true}}[digit(4)],
			Empty:  digit(2) == 1,
		}
		w, ok := seek.Path(m)
		want, some := first(tried, func(w string) bool { return takes(m, w) })
		if w != want || ok != some || len(w) > 2 {
			t.Fatalf("%v: %q, %v, not %q, %v", m, w, ok, want, some)
		}
		if v, some := seek.Word(built(t, m)); v != w || some != ok {
			t.Fatalf("%v: %q, %v, but Word %q, %v", m, w, ok, v, some)
		}
	}
}

// P13.3, P13.4: Path against the words that are taken, of machines without a plan; and against Word.
func TestPathWords(t *testing.T) {
	plan := chance(4)
	tried := words(6, 'a', 'b', 'c')
	bytes, none := 0, 0
	for i := range 2500 {
		m := plan.machine(2+plan.below(6), "abc")
		m.Empty = i%10 == 0
		w, ok := seek.Path(m)
		want, some := first(tried, func(w string) bool { return takes(m, w) })
		if w != want || ok != some || len(w) > len(m.Spots) {
			t.Fatalf("%v: %q, %v, not %q, %v", m, w, ok, want, some)
		}
		d := built(t, m)
		if v, some := seek.Word(d); v != w || some != ok || seek.Empty(d) == ok {
			t.Fatalf("%v: %q, %v, but Word %q, %v", m, w, ok, v, some)
		}
		bytes += len(w)
		if !ok {
			none++
		}
	}
	// Else the machines would not be worth trying.
	if bytes < 1000 || none < 500 {
		t.Errorf("%d bytes, %d without a text", bytes, none)
	}
}

// P13.3, P13.4: Path against the model, of greater machines without a plan, whose spots may be numbered anyhow; trimmed they have the same path, and of their automata it is the word.
func TestPathModel(t *testing.T) {
	plan := chance(5)
	bytes := 0
	for i := range 400 {
		m := plan.machine(5+plan.below(28), []string{"ab", "\x00\x7f\x80\xff", "xyz"}[i%3])
		if i%2 == 0 {
			m = plan.layers(2+plan.below(6), 1+plan.below(12), "abcd")
		}
		w := holdsPath(t, "without a plan", m)
		bytes += len(w)
		trimmed, _ := nfa.Trim(m)
		turned := plan.turned(m)
		for name, other := range map[string]api.Machine{"trimmed": trimmed, "turned": turned, "copied": nfa.Copy(m)} {
			if v := holdsPath(t, name, other); v != w {
				t.Fatalf("%s: %v: %q, not %q", name, m, v, w)
			}
		}
		if v, ok := seek.Word(built(t, trimmed)); v != w || ok != (len(trimmed.Spots) > 0) {
			t.Fatalf("%v: %q, but Word %q, %v", m, w, v, ok)
		}
	}
	if bytes < 1000 {
		t.Errorf("%d bytes", bytes)
	}
}

// P13.3: as many spots as there may be: long texts, and many of one length that differ late or not at all.
func TestPathManySpots(t *testing.T) {
	for _, many := range []int{1, 2, 63, 64, 65, 128, 192, 193, 249, 250} {
		want := strings.Repeat("\xfe\x01", many)[:many]
		if w := holdsPath(t, "a row", row(want)); w != want {
			t.Errorf("a row of %d: %q", many, w)
		}
	}
	plan := chance(6)
	for i := range 20 {
		for _, x := range [][2]int{{2, 125}, {5, 50}, {10, 25}, {50, 5}, {125, 2}, {250, 1}} {
			m := plan.layers(x[0], x[1], []string{"ab", "a", "abcdefgh"}[i%3])
			if i%2 == 0 {
				m = plan.turned(m)
			}
			holdsPath(t, fmt.Sprint(x), m)
		}
	}
	holdsPath(t, "thin", plan.machine(250, "ab"))
}

// P13.3: each spot of 250 is told apart from the others, as a first one, a last one, and one that follows.
func TestPathEachSpot(t *testing.T) {
	const many = api.MaxSpots
	for k := range many {
		m := full(many)
		for i := range many {
			m.Spots[i].Set = octets.Of(byte(i))
			m.Follow[i] = []int{(i + 75) % many}
			m.Last[i] = i == (k+150)%many
		}
		m.First = []int{k}
		want := string([]byte{byte(k), byte((k + 75) % many), byte((k + 150) % many)})
		if w, ok := seek.Path(m); w != want || !ok {
			t.Fatalf("the spot %d: %q, %v", k, w, ok)
		}
	}
}

// P13.3: two rows that run side by side, and tell themselves apart by one byte alone, wherever it stands.
func TestPathSideBySide(t *testing.T) {
	const long = 40
	for at := range long {
		lesser := []byte(strings.Repeat("m", long))
		greater := slices.Clone(lesser)
		greater[at]++
		// What stands behind the byte does not matter any more.
		for i := at + 1; i < long; i++ {
			lesser[i] = 'z'
		}
		for _, m := range []api.Machine{either(row(string(lesser)), row(string(greater))), either(row(string(greater)), row(string(lesser)))} {
			// And they may come together behind it, so that the lesser one has to be kept.
			m.Follow[long-2] = []int{long - 1, 2*long - 1}
			m.Follow[2*long-2] = []int{long - 1, 2*long - 1}
			w, ok := seek.Path(m)
			want, _ := path(m)
			if w != want || !ok || at < long-1 && w[:long-1] != string(lesser[:long-1]) {
				t.Fatalf("%d: %q, not %q", at, w, want)
			}
		}
	}
}

// R3: asked again, it answers the same, whatever order the spots of one length are gone through in.
func TestAgain(t *testing.T) {
	plan := chance(7)
	machines := []api.Machine{plan.layers(25, 10, "ab"), plan.layers(25, 10, "abcdefghijkl"), full(250), either(row("abz"), row("aby"), row("abx"), row("acA"), row("abx"))}
	for _, m := range machines {
		want, some := seek.Path(m)
		for range 200 {
			if w, ok := seek.Path(m); w != want || ok != some {
				t.Fatalf("%q, %v, not %q, %v", w, ok, want, some)
			}
		}
	}
	d := plan.far(letters(), 30)
	want, some := seek.Word(d)
	for range 100 {
		if w, ok := seek.Word(d); w != want || ok != some || seek.Empty(d) == some {
			t.Fatalf("%q, %v, not %q, %v", w, ok, want, some)
		}
	}
}

// R4: what is handed in is not changed, its spare room neither; what was told stays when it is changed later.
func TestMemory(t *testing.T) {
	plan := chance(8)
	for i := range 60 {
		d := roomy(plan.far([]classes.Part{classes.Refine(), letters()}[i%2], 3+plan.below(9)))
		before := all(d)
		w, _ := seek.Word(d)
		want := strings.Clone(w)
		seek.Empty(d)
		if all(d) != before {
			t.Fatalf("it was changed: %s, not %s", all(d), before)
		}
		for _, list := range d.Next {
			clear(list)
		}
		clear(d.Final)
		if w != want {
			t.Fatalf("%q, not %q", w, want)
		}
		m := roomyMachine(plan.layers(3, 4, "abc"))
		before = allOf(m)
		w, _ = seek.Path(m)
		want = strings.Clone(w)
		if allOf(m) != before {
			t.Fatalf("it was changed: %s, not %s", allOf(m), before)
		}
		clear(m.Spots)
		clear(m.First)
		if w != want {
			t.Fatalf("%q, not %q", w, want)
		}
	}
}
