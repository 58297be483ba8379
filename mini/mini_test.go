package mini_test

import (
	"slices"
	"strings"
	"testing"

	"shibboleth/api"
	"shibboleth/classes"
	"shibboleth/dfa"
	"shibboleth/mini"
	"shibboleth/octets"
)

// P12.1, P12.2: the chapter's examples.
func TestExamples(t *testing.T) {
	d := example()
	l, e := mini.Least(d)
	want := dfa.DFA{Part: letters(), Next: [][]int{{1, 2, 1, 1}, {1, 1, 1, 1}, {1, 1, 3, 1}, {1, 1, 1, 1}}, Final: []bool{true, false, false, true}}
	if e != api.OK || !same(l, want) {
		t.Errorf("%v, %v, %d", l.Next, l.Final, e)
	}
	n, _ := dfa.Not(d)
	again, _ := dfa.Not(n)
	if !mini.Same(d, l) || mini.Same(d, n) || !mini.Same(d, again) {
		t.Errorf("%v, %v, %v", mini.Same(d, l), mini.Same(d, n), mini.Same(d, again))
	}
}

// P12.1: least automata, written down.
func TestLeast(t *testing.T) {
	one, a := classes.Refine(), onlyA()
	for _, x := range []struct {
		name string
		d    dfa.DFA
		want dfa.DFA
	}{
		{"one state", dfa.DFA{Part: one, Next: [][]int{{0}}, Final: []bool{true}}, dfa.DFA{Part: one, Next: [][]int{{0}}, Final: []bool{true}}},
		{"one state, not final", dfa.DFA{Part: a, Next: [][]int{{0, 0}}, Final: []bool{false}}, dfa.DFA{Part: a, Next: [][]int{{0, 0}}, Final: []bool{false}}},
		{"all are final", dfa.DFA{Part: a, Next: [][]int{{1, 2}, {2, 0}, {1, 1}}, Final: []bool{true, true, true}}, dfa.DFA{Part: a, Next: [][]int{{0, 0}}, Final: []bool{true}}},
		{"none is final", dfa.DFA{Part: a, Next: [][]int{{1, 2}, {2, 0}, {1, 1}}, Final: []bool{false, false, false}}, dfa.DFA{Part: a, Next: [][]int{{0, 0}}, Final: []bool{false}}},
		{"the final one is not reached", dfa.DFA{Part: a, Next: [][]int{{1, 0}, {0, 1}, {0, 1}}, Final: []bool{false, false, true}}, dfa.DFA{Part: a, Next: [][]int{{0, 0}}, Final: []bool{false}}},
		{"least, but numbered otherwise", dfa.DFA{Part: a, Next: [][]int{{2, 1}, {1, 1}, {0, 2}}, Final: []bool{false, true, false}}, dfa.DFA{Part: a, Next: [][]int{{1, 2}, {0, 1}, {2, 2}}, Final: []bool{false, false, true}}},
		{"odd ones", dfa.DFA{Part: one, Next: [][]int{{1}, {2}, {3}, {0}}, Final: []bool{false, true, false, true}}, dfa.DFA{Part: one, Next: [][]int{{1}, {0}}, Final: []bool{false, true}}},
		// States that are told apart by a text of three bytes alone.
		{"far", dfa.DFA{Part: a, Next: [][]int{{1, 2}, {3, 3}, {4, 4}, {5, 5}, {6, 6}, {5, 5}, {7, 7}, {5, 5}}, Final: []bool{false, false, false, false, false, false, false, true}}, dfa.DFA{Part: a, Next: [][]int{{1, 2}, {1, 1}, {3, 3}, {4, 4}, {5, 5}, {1, 1}}, Final: []bool{false, false, false, false, false, true}}},
		// States that are not reached, and are like ones that are.
		{"not reached, alike", dfa.DFA{Part: a, Next: [][]int{{3, 3}, {3, 3}, {0, 0}, {3, 0}}, Final: []bool{false, false, true, true}}, dfa.DFA{Part: a, Next: [][]int{{1, 1}, {1, 0}}, Final: []bool{false, true}}},
	} {
		if l := least(t, x.d); !same(l, x.want) {
			t.Errorf("%s: %v, %v", x.name, l.Next, l.Final)
		}
	}
}

// P12.1: of single bytes each matters.
func TestLeastAllBytes(t *testing.T) {
	for c := range 256 {
		d := dfa.DFA{Part: single(), Next: [][]int{make([]int, 256), make([]int, 256), make([]int, 256)}, Final: []bool{false, false, true}}
		d.Next[0][c], d.Next[1][c], d.Next[2][255-c] = 2, 2, 1
		l := least(t, d)
		if len(l.Next) != 2 || l.Next[0][c] != 1 || l.Next[0][255-c] != 0 || l.Next[1][c] != 0 || !slices.Equal(l.Final, []bool{false, true}) {
			t.Fatalf("%d: %v, %v", c, l.Next, l.Final)
		}
		d.Next[1][c] = 1
		if l := least(t, d); len(l.Next) != 3 || l.Next[2][c] != 2 || l.Next[1][255-c] != 2 {
			t.Fatalf("%d: %v, %v", c, l.Next, l.Final)
		}
	}
}

// P12.1 to P12.3: all small automata: how few states take what is taken, and which ones are the same.
func TestSmall(t *testing.T) {
	for _, x := range []struct {
		p    classes.Part
		most int
	}{{classes.Refine(), 4}, {onlyA(), 3}} {
		texts := words(2*x.most-2, 'a', 'b')
		taken := map[string]dfa.DFA{}
		var row []dfa.DFA
		for many := 1; many <= x.most; many++ {
			for _, d := range small(x.p, many) {
				l := least(t, d)
				var bits strings.Builder
				for _, w := range texts {
					is := dfa.Run(d, w)
					if is != dfa.Run(l, w) {
						t.Fatalf("%v, %v: %q", d.Next, d.Final, w)
					}
					bits.WriteByte("-+"[slices.Index([]bool{false, true}, is)])
				}
				other, known := taken[bits.String()]
				if !known {
					// None of fewer states takes just these texts: all of them were looked at.
					if len(l.Next) != many {
						t.Fatalf("%v, %v: %d states", d.Next, d.Final, len(l.Next))
					}
					taken[bits.String()] = l
					row = append(row, l)
				} else if !same(l, other) || !mini.Same(d, other) || !mini.Same(other, d) {
					t.Fatalf("%v, %v: %v, %v", d.Next, d.Final, l.Next, l.Final)
				}
			}
		}
		for i, d := range row[:min(len(row), 150)] {
			for j, other := range row {
				if mini.Same(d, other) != (i == j) {
					t.Fatalf("%v, %v and %v, %v", d.Next, d.Final, other.Next, other.Final)
				}
			}
		}
	}
}

// P12.1: Least against the model, of automata without a plan, with states that are alike and ones that are not reached.
func TestLeastModel(t *testing.T) {
	plan := chance(1)
	kept, gone := 0, 0
	for i := range 2000 {
		p := []classes.Part{classes.Refine(), onlyA(), letters()}[i%3]
		d := plan.automaton(p, 1+plan.below(14), 1+plan.below(9))
		if i%2 == 0 {
			d = plan.blown(d, 1+plan.below(4))
		}
		l := least(t, d)
		if want := model(d); !same(l, want) {
			t.Fatalf("%v, %v: %v, %v, not %v, %v", d.Next, d.Final, l.Next, l.Final, want.Next, want.Final)
		}
		kept += len(l.Next)
		gone += len(d.Next) - len(l.Next)
	}
	// Else the automata would not be worth trying.
	if kept < 7000 || gone < 15000 {
		t.Errorf("%d states kept, %d gone", kept, gone)
	}
}

// P12.1: of many classes and of more states, too.
func TestLeastModelMany(t *testing.T) {
	plan := chance(2)
	for i := range 12 {
		p := []classes.Part{single(), letters(), onlyA()}[i%3]
		many := []int{20, 150, 300}[i%3]
		d := plan.automaton(p, many, 2+40*(i%2))
		if i >= 6 {
			d = plan.blown(plan.automaton(p, many/5, 3), 5)
		}
		if l, want := least(t, d), model(d); !same(l, want) {
			t.Fatalf("%d: %d states, not %d", i, len(l.Next), len(want.Next))
		}
	}
}

// P12.1: where only one class tells states apart, whichever it is.
func TestLeastOneClass(t *testing.T) {
	plan := chance(3)
	for class := range 256 {
		d := dfa.DFA{Part: single(), Final: make([]bool, 6)}
		for s := range 6 {
			d.Next = append(d.Next, slices.Repeat([]int{s}, 256))
			d.Next[s][class] = (s + 1) % 6
		}
		d.Final[plan.below(6)] = true
		if l := least(t, d); len(l.Next) != 6 {
			t.Fatalf("%d: %d states", class, len(l.Next))
		}
	}
}

// P12.1: automata of machines and constraints.
func TestLeastBuilt(t *testing.T) {
	for _, text := range []string{
		"", "a", ".", "[]", "!", "!a", "!.*", "ab|c", "(ab)*", "a{2,3}", "a*b&!aab", "a*&!aa", "!.*&!.*", "(a|b)*a(a|b){2}", "a&b", "!a&!b",
		`[\x00-\x1f]*|\xff`, "(a?){3}", "[]*", "a+b*&!.*c.*", "((a|b)(b|c))+", "!(.{9}){2}", ".*a&b.*&!.*c.*", "(ab?){1,4}&!ab{2}", strings.Repeat("a", 63), ".*abcab.*", ".*a.{7}",
	} {
		d := masked(t, text)
		if l, want := least(t, d), model(d); !same(l, want) || !mini.Same(d, l) {
			t.Errorf("%s: %d states, not %d", text, len(l.Next), len(want.Next))
		}
	}
	// It is told of each of the last bytes but the first of them whether it is an a.
	for many := 3; many < 9; many++ {
		d := late(t, many)
		if l := least(t, d); !same(l, model(d)) || len(l.Next) != 1<<(many-1) {
			t.Errorf("%d spots: %d states, of %d", many, len(l.Next), len(d.Next))
		}
	}
}

// P12.2, P12.3: constraints that have the same words, and ones that have others.
func TestSameWords(t *testing.T) {
	p := letters()
	for _, x := range []struct {
		a, b string
		want bool
	}{
		{"(a|b)*", "(a*b*)*", true}, {"a+", "aa*", true}, {"a{2,4}", "aa(a?a)?|aaa", true}, {"!a*", "!(a*)&!a?", true}, {"[]", "a&b", true}, {"!", ".+", true}, {"(ab)*a", "a(ba)*", true},
		{"(a{6})*", "(a{2})*&(a{3})*", true}, {"!.*a.*", "[^a]*", true}, {"", "[]", false}, {"", "[]*", true},
		{"a*", "a+", false}, {"a{9}", "a{8}", false}, {"(a{9}){7}", "(a{7}){9}", true}, {"(a|b)*", "(a|b|c)*", false}, {".*", "(a|b|c)*", false}, {".*a.{5}", ".*a.{6}", false}, {"ab", "ba", false},
	} {
		a, b := spelt(t, x.a, p), spelt(t, x.b, p)
		if mini.Same(a, b) != x.want || mini.Same(b, a) != x.want {
			t.Errorf("%s and %s: %v", x.a, x.b, !x.want)
		}
		if same(least(t, a), least(t, b)) != x.want {
			t.Errorf("%s and %s: least ones", x.a, x.b)
		}
	}
}

// P12.2: Same against Both, of automata without a plan.
func TestSameModel(t *testing.T) {
	plan := chance(4)
	yes, no := 0, 0
	for i := range 3000 {
		p := []classes.Part{classes.Refine(), onlyA(), letters()}[i%3]
		a, b := plan.automaton(p, 1+plan.below(5), 1+plan.below(4)), plan.automaton(p, 1+plan.below(5), 1+plan.below(4))
		if i%4 == 0 {
			b = plan.shuffled(plan.blown(a, 1+plan.below(3)))
		}
		if i%8 == 0 {
			s := plan.below(len(b.Final))
			b.Final[s] = !b.Final[s] // it may be one that is not reached
		}
		x, _ := dfa.Both(a, b, dfa.Xor, nil)
		want := !slices.Contains(x.Final, true)
		if mini.Same(a, b) != want || mini.Same(b, a) != want || same(least(t, a), least(t, b)) != want {
			t.Fatalf("%v, %v and %v, %v: not %v", a.Next, a.Final, b.Next, b.Final, want)
		}
		if want {
			yes++
		} else {
			no++
		}
	}
	if yes < 500 || no < 500 {
		t.Errorf("%d the same, %d not", yes, no)
	}
}

// P12.2: with other partitions they are not the same, whatever they take.
func TestSameOtherPartitions(t *testing.T) {
	parts := []classes.Part{
		classes.Refine(), onlyA(), letters(), single(),
		classes.Refine(octets.Of('b')),                                    // as many classes as onlyA's
		classes.Refine(octets.Of('a'), octets.Of('b'), octets.Of('d')),    // as letters'
		classes.Refine(octets.Of('a', 'b'), octets.Of('b'), octets.Of(0)), // as letters'
	}
	for _, final := range []bool{false, true} {
		for i, p := range parts {
			for j, q := range parts {
				a := dfa.DFA{Part: p, Next: [][]int{make([]int, p.N)}, Final: []bool{final}}
				b := dfa.DFA{Part: q, Next: [][]int{make([]int, q.N)}, Final: []bool{final}}
				if mini.Same(a, b) != (i == j) {
					t.Errorf("%d and %d: %v", i, j, i != j)
				}
			}
		}
	}
}

// P12.3: the least automaton's own is itself; however the states are numbered, and how often they are there, it is one.
func TestLeastOfLeast(t *testing.T) {
	plan := chance(5)
	for i := range 600 {
		d := plan.automaton([]classes.Part{classes.Refine(), onlyA(), letters(), single()}[i%4], 1+plan.below(12), 1+plan.below(6))
		l := least(t, d)
		for j, other := range []dfa.DFA{l, plan.shuffled(l), plan.shuffled(d), plan.blown(d, 3), plan.shuffled(plan.blown(l, 2)), roomy(d)} {
			if x := least(t, other); !same(x, l) || !mini.Same(d, other) {
				t.Fatalf("%v, %v: %d: %v, %v", d.Next, d.Final, j, x.Next, x.Final)
			}
		}
	}
}

// P12.3: it takes just what d takes; each of its states is reached, no two are alike.
func TestLeastTakes(t *testing.T) {
	plan := chance(6)
	texts := words(6, 'a', 'b', 0xff)
	for i := range 40 {
		d := plan.automaton([]classes.Part{onlyA(), letters()}[i%2], 1+plan.below(10), 2)
		l := least(t, d)
		for _, w := range texts {
			if dfa.Run(d, w) != dfa.Run(l, w) {
				t.Fatalf("%v, %v: %q", d.Next, d.Final, w)
			}
		}
		x, _ := dfa.Both(d, l, dfa.Xor, nil)
		whole, _ := dfa.Both(l, l, dfa.And, nil)
		names := names(l)
		slices.Sort(names)
		if slices.Contains(x.Final, true) || !same(whole, l) || len(slices.Compact(names)) != len(l.Next) {
			t.Fatalf("%v, %v: %v, %v", d.Next, d.Final, l.Next, l.Final)
		}
	}
}

// P12.1, P12.2: of one that is not right.
func TestWrong(t *testing.T) {
	for why, d := range wrong() {
		if l, e := mini.Least(d); e != api.ErrArg || !nothing(l) {
			t.Errorf("%s: %v, %d", why, l, e)
		}
		right := dfa.DFA{Part: d.Part, Next: [][]int{make([]int, max(0, min(d.N, 300)))}, Final: []bool{true}}
		if mini.Same(d, d) || mini.Same(d, right) || mini.Same(right, d) || mini.Same(d, example()) || mini.Same(example(), d) {
			t.Errorf("%s: it is the same", why)
		}
	}
}

// ring is an automaton of one class, whose states stand in a ring; one in so many is final.
func ring(many, once int) dfa.DFA {
	d := dfa.DFA{Part: classes.Refine()}
	for s := range many {
		d.Next = append(d.Next, []int{(s + 1) % many})
		d.Final = append(d.Final, s%once == 0)
	}
	return d
}

// chain is an automaton of a's, with so many states behind one another; behind each other byte it begins anew.
func chain(many int) dfa.DFA {
	d := dfa.DFA{Part: onlyA()}
	for s := range many {
		d.Next = append(d.Next, []int{0, min(s+1, many-1)})
		d.Final = append(d.Final, s == many-1)
	}
	return d
}

// P12.1: rings and chains, great ones too: it comes to an end soon.
func TestGreat(t *testing.T) {
	for _, x := range [][2]int{{1, 1}, {2, 1}, {2, 2}, {12, 4}, {12, 12}, {97, 97}, {210, 35}, {200000, 200000}, {200000, 1000}, {1 << 17, 2}} {
		if l := least(t, ring(x[0], x[1])); !same(l, ring(x[1], x[1])) {
			t.Errorf("a ring of %d: %d states, not %d", x[0], len(l.Next), x[1])
		}
	}
	for _, many := range []int{1, 2, 3, 50, 200000} {
		if l := least(t, chain(many)); !same(l, chain(many)) {
			t.Errorf("a chain of %d: %d states", many, len(l.Next))
		}
		plan := chance(7)
		if d := chain(many); !mini.Same(plan.shuffled(d), plan.shuffled(plan.blown(d, 2))) {
			t.Errorf("a chain of %d: not the same", many)
		}
	}
	plan := chance(8)
	d := plan.automaton(single(), 3000, 2)
	if l := least(t, plan.shuffled(plan.blown(d, 2))); !same(l, least(t, d)) {
		t.Errorf("%d states", len(l.Next))
	}
}

// R3: asked again, it answers the same.
func TestAgain(t *testing.T) {
	plan := chance(9)
	d := plan.blown(plan.automaton(letters(), 30, 4), 3)
	l := least(t, d)
	for range 100 {
		if !same(least(t, d), l) {
			t.Fatal("it answers something else")
		}
	}
}

// R4: what is handed in is not changed, its spare room neither, and not kept; what is answered is new memory.
func TestMemory(t *testing.T) {
	plan := chance(10)
	for i := range 100 {
		d := roomy(plan.automaton([]classes.Part{classes.Refine(), letters()}[i%2], 1+plan.below(9), 3))
		if i%5 == 0 {
			d = roomy(least(t, d)) // nothing goes
		}
		before := all(d)
		l := least(t, d)
		if !mini.Same(d, l) || !mini.Same(l, d) || all(d) != before {
			t.Fatalf("it was changed: %s", all(d))
		}
		want := all(l)
		for s, list := range d.Next {
			clear(list[:cap(list)])
			d.Final[s] = !d.Final[s]
		}
		clear(d.Next[:cap(d.Next)])
		if all(l) != want {
			t.Fatalf("it was kept: %s, not %s", all(l), want)
		}
		fresh := least(t, l)
		for s := range l.Next {
			for k := range l.Next {
				if k != s {
					_ = append(l.Next[k], -1)
					clear(l.Next[k])
				}
			}
			if !slices.Equal(l.Next[s], fresh.Next[s]) || !slices.Equal(l.Final, fresh.Final) {
				t.Fatalf("lists share memory: %v", l.Next)
			}
			for k, list := range fresh.Next {
				copy(l.Next[k], list)
			}
		}
	}
}
