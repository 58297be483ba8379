package fst_test

import (
	"fmt"
	"slices"
	"strings"
	"testing"

	"shibboleth/api"
	"shibboleth/fst"
	"shibboleth/nfa"
	"shibboleth/octets"
)

// P14.1, P14.2: the chapter's examples.
func TestExamples(t *testing.T) {
	m := example()
	holds(t, "the chapter's", m, "ab", []uint8{0, 0}, true)
	holds(t, "the chapter's", m, "b", nil, false)
	if p := fst.Run(m, "ab"); p != (api.Parsed{OK: true}) || fst.Single(m) {
		t.Errorf("%v, Single %v", p, fst.Single(m))
	}
	m.Spots[0].Set = octets.Of('c')
	holds(t, "the same with c", m, "ab", []uint8{1, 0}, true)
	if p := fst.Run(m, "ab"); p != (api.Parsed{OK: true, Host: "a"}) || !fst.Single(m) {
		t.Errorf("with c: %v, Single %v", p, fst.Single(m))
	}
}

// url marks, of letters, a host behind two slashes and a path behind it; without slashes all is path.
func url() api.Machine {
	return api.Machine{
		Spots:  []api.Spot{spot("/", 0), spot("/", 0), spot("abc", 1), spot("/", 2), spot("abc/", 2), spot("abc", 2)},
		First:  []int{0, 5},
		Follow: [][]int{{1}, {2, 3}, {2, 3}, {4}, {4}, {4}},
		Last:   []bool{false, true, true, true, true, true},
		Empty:  true,
	}
}

// P14.1: marks, written down.
func TestMarks(t *testing.T) {
	bytes := row("\x00\xff\x80\n", 2)
	bytes.Spots[1].Tag, bytes.Spots[2].Tag = 1, 0
	emptied := row("a", 1)
	emptied.Empty = true
	// The least spot at once leads to no end, or to one only behind other bytes.
	dead := either(row("aaab", 1), row("aaac", 2), row("aa", 0))
	// The run that is lesser at the first byte is greater at each other one.
	first := api.Machine{Spots: []api.Spot{spot("a", 1), spot("a", 2), spot("a", 0), spot("a", 1)}, First: []int{0, 1}, Follow: [][]int{{3}, {2}, {2}, {3}}, Last: []bool{false, false, true, true}}
	// The two come together, and part again.
	parting := api.Machine{Spots: []api.Spot{spot("a", 0), spot("a", 1), spot("a", 2), spot("a", 0), spot("a", 1), spot("a", 2)}, First: []int{1, 2}, Follow: [][]int{{4, 5}, {0, 3}, {0}, {5}, nil, nil}, Last: []bool{false, false, false, false, false, true}}
	parting.Last[4] = true
	for _, x := range []struct {
		name string
		m    api.Machine
		w    string
		want []uint8
		ok   bool
	}{
		{"zero", api.Machine{}, "", nil, false},
		{"zero", api.Machine{}, "a", nil, false},
		{"only Empty", api.Machine{Empty: true}, "", nil, true},
		{"only Empty", api.Machine{Empty: true}, "\x00", nil, false},
		{"Empty, and more", emptied, "", nil, true},
		{"Empty, and more", emptied, "a", []uint8{1}, true},
		{"not Empty", row("a", 1), "", nil, false},
		{"too long", row("a", 1), "aa", nil, false},
		{"too short", row("ab", 1), "a", nil, false},
		{"another byte", row("ab", 1), "ac", nil, false},
		{"bytes that are no letters", bytes, "\x00\xff\x80\n", []uint8{2, 1, 0, 2}, true},
		{"one rune more", bytes, "\x00\xff\u0080\n", nil, false},
		{"no path", url(), "//ab", []uint8{0, 0, 1, 1}, true},
		{"no host", url(), "///b/", []uint8{0, 0, 2, 2, 2}, true},
		{"both", url(), "//a//b", []uint8{0, 0, 1, 2, 2, 2}, true},
		{"path alone", url(), "a//", []uint8{2, 2, 2}, true},
		{"neither", url(), "//", []uint8{0, 0}, true},
		{"one slash", url(), "/", nil, false},
		{"one slash, and more", url(), "/a", nil, false},
		{"the first one ends", dead, "aaab", []uint8{1, 1, 1, 1}, true},
		{"the first one leads nowhere", dead, "aaac", []uint8{2, 2, 2, 2}, true},
		{"the first two end too late", dead, "aa", []uint8{0, 0}, true},
		{"none ends", dead, "aaa", nil, false},
		{"all lead nowhere", dead, "aaad", nil, false},
		{"the first byte tells", first, "aaa", []uint8{1, 1, 1}, true},
		{"they come together", parting, "aaa", []uint8{1, 0, 1}, true},
		{"nothing last", api.Machine{Spots: []api.Spot{spot("a", 1)}, First: []int{0}, Follow: [][]int{{0}}, Last: []bool{false}}, "aa", nil, false},
		{"nothing first", api.Machine{Spots: []api.Spot{spot("a", 1)}, Follow: [][]int{{0}}, Last: []bool{true}}, "aa", nil, false},
		{"no byte", api.Machine{Spots: []api.Spot{spot("", 1)}, First: []int{0}, Follow: [][]int{{0}}, Last: []bool{true}}, "a", nil, false},
		{"full", full(250), "abc", []uint8{0, 0, 0}, true},
	} {
		holds(t, x.name, x.m, x.w, x.want, x.ok)
		if want, ok := marks(x.m, x.w); !slices.Equal(want, x.want) || ok != x.ok {
			t.Errorf("%s: the model tells %v, %v", x.name, want, ok)
		}
	}
}

// P14.1: each tag's bytes go to its field, in their row, whatever bytes they are.
func TestRunFields(t *testing.T) {
	m := api.Machine{
		Spots:  []api.Spot{{Set: octets.Range(0, 84)}, {Set: octets.Range(85, 170), Tag: api.Host}, {Set: octets.Range(171, 255), Tag: api.Path}},
		First:  []int{0, 1, 2},
		Follow: [][]int{{0, 1, 2}, {0, 1, 2}, {0, 1, 2}},
		Last:   []bool{true, true, true},
	}
	var w, host, path []byte
	for i := range 256 * 3 {
		c := byte(i * 167)
		w = append(w, c)
		switch {
		case c > 170:
			path = append(path, c)
		case c > 84:
			host = append(host, c)
		}
	}
	if p := fst.Run(m, string(w)); p != (api.Parsed{OK: true, Host: string(host), Path: string(path)}) {
		t.Errorf("%v", p)
	}
	for c := range 256 {
		w := string([]byte{byte(c)})
		want := []uint8{0, 1, 2}[(c+1)/86]
		if c == 170 || c == 85 {
			want = 1
		}
		holds(t, "one byte", m, w, []uint8{want}, true)
	}
}

// small goes over all machines of two spots.
func small(try func(m api.Machine)) {
	sets := []string{"", "b", "ab"}
	lists := [][]int{nil, {0}, {1}, {0, 1}}
	marks := [][2]uint8{{0, 0}, {0, 1}, {2, 0}, {1, 2}, {2, 2}}
	for i := range 9 * 5 * 4 * 4 * 4 * 4 {
		digit := func(of int) int {
			d := i % of
			i /= of
			return d
		}
		tags := marks[digit(5)]
		try(api.Machine{
			Spots:  []api.Spot{spot(sets[digit(3)], tags[0]), spot(sets[digit(3)], tags[1])},
			First:  lists[digit(4)],
			Follow: [][]int{lists[digit(4)], lists[digit(4)]},
			Last:   [][]bool{{false, false}, {false, true}, {true, false}, {true, true}}[digit(4)],
			Empty:  i == 0,
		})
	}
}

// P14.1, P14.2, P14.3: all machines of two spots. They have but three pairs, of which two may have been marked unlike before or not, so words of five bytes show all.
func TestSmall(t *testing.T) {
	tried, far := words(3, 'a', 'b'), words(5, 'a', 'b')
	apart := 0
	small(func(m api.Machine) {
		for _, w := range tried {
			want, ok := marks(m, w)
			holds(t, "small", m, w, want, ok)
		}
		want := same(m, far)
		if got := fst.Single(m); got != want || single(m) != want {
			t.Fatalf("%v: Single %v, not %v; the model %v", m, got, want, single(m))
		}
		if !want {
			apart++
		}
		trimmed, _ := nfa.Trim(m)
		if fst.Single(trimmed) != want {
			t.Fatalf("%v: trimmed: Single %v", m, !want)
		}
	})
	if apart < 400 {
		t.Errorf("%d that are not single-valued", apart)
	}
}

// P14.1, P14.3: machines without a plan, against all runs; and of single-valued ones each run marks as is told.
func TestMarksRuns(t *testing.T) {
	plan := chance(1)
	tried := words(5, 'a', 'b', 'c')
	taken, several, alike := 0, 0, 0
	for i := range 1500 {
		m := plan.machine(2+plan.below(6), 2+i%2, "abc")
		trimmed, e := nfa.Trim(m)
		if e != api.OK {
			t.Fatal(e)
		}
		single := fst.Single(m)
		for _, w := range tried {
			want, ok := marks(m, w)
			holds(t, "without a plan", m, w, want, ok)
			holds(t, "trimmed", trimmed, w, want, ok)
			runs := 0
			each(m, w, func(run []int) bool {
				runs++
				if !slices.Equal(tags(m, run), want) {
					several++
					if single {
						t.Fatalf("%v is single-valued, but marks %q so: %v, and so: %v", m, w, want, tags(m, run))
					}
				} else if runs > 1 && single {
					alike++
				}
				return runs < 100
			})
			if ok {
				taken++
			}
		}
	}
	// Else the machines would not be worth trying.
	if taken < 20000 || several < 20000 || alike < 5000 {
		t.Errorf("%d taken, %d runs that mark unlike, %d that mark alike", taken, several, alike)
	}
}

// P14.1: longer words, and greater machines, against the least runs to each spot.
func TestMarksFar(t *testing.T) {
	plan := chance(2)
	taken, unlike := 0, 0
	for i := range 300 {
		m := plan.machine(5+plan.below(30), 3+i%4, "abc")
		if i%3 == 0 {
			m = plan.guided(5 + plan.below(30))
		}
		trimmed, _ := nfa.Trim(m)
		turned := plan.turned(m)
		for range 8 {
			w := plan.read(m, 1+plan.below(60))
			if plan.below(4) == 0 {
				w = plan.word(1+plan.below(20), "abc")
			}
			want, ok := farMarks(m, w)
			holds(t, "without a plan", m, w, want, ok)
			holds(t, "trimmed", trimmed, w, want, ok)
			other, also := farMarks(turned, w)
			holds(t, "turned", turned, w, other, also)
			if ok {
				taken++
			}
			if !slices.Equal(want, other) {
				unlike++
				if fst.Single(m) {
					t.Fatalf("%v is single-valued, but numbered anew it marks %q unlike", m, w)
				}
			}
		}
	}
	if taken < 1000 || unlike < 400 {
		t.Errorf("%d taken, %d unlike when numbered anew", taken, unlike)
	}
}

// P14.1: a long word is marked soon, even where there is a choice all along which its last byte alone settles.
func TestMarksLong(t *testing.T) {
	m := api.Machine{
		Spots:  []api.Spot{spot("a", 1), spot("a", 2), spot("a", 1), spot("b", 0), spot("c", 0)},
		First:  []int{0, 1},
		Follow: [][]int{{0, 2, 3}, {1, 4}, {0, 2, 3}, nil, nil},
		Last:   []bool{false, false, false, true, true},
	}
	const long = 500000
	for end, want := range map[string]api.Parsed{
		"b": {OK: true, Host: strings.Repeat("a", long)}, "c": {OK: true, Path: strings.Repeat("a", long)}, "": {}, "d": {}, "bb": {},
	} {
		if p := fst.Run(m, strings.Repeat("a", long)+end); p != want {
			t.Errorf("behind it %q: %v, %d and %d bytes", end, p.OK, len(p.Host), len(p.Path))
		}
	}
	if l, ok := fst.Marks(full(250), strings.Repeat("\xff", 5000)); !ok || !slices.Equal(l, make([]uint8, 5000)) {
		t.Errorf("full: %v", ok)
	}
}

// P14.1: each spot of 250 is told apart from the others, as a first one, a last one, and one that follows; the least number goes ahead, wherever it stands.
func TestMarksEachSpot(t *testing.T) {
	const many = api.MaxSpots
	for k := range many {
		m := full(many)
		m.Spots[k].Tag = 1
		// Only the spot k may be first, then only the one behind it, then again k is the only last one.
		m.First = []int{k}
		on := (k + 75) % many
		m.Follow[k] = []int{on}
		for i := range many {
			m.Last[i] = i == k
		}
		holds(t, fmt.Sprint(k), m, "xyz", []uint8{1, 0, 1}, true)
		holds(t, fmt.Sprint(k), m, "xy", nil, false)
		some := full(many)
		for i := range k {
			some.Spots[i].Set = octets.Of('b')
		}
		some.Spots[k].Tag = 2
		want := []uint8{2, 0, 2}
		if k == 0 {
			want[1] = 2
		}
		holds(t, fmt.Sprint("from ", k, " on"), some, "aba", want, true)
	}
}

// P14.2: written down.
func TestSingle(t *testing.T) {
	late := either(row("aaaaaa", 0), row("aaaaaa", 0))
	early := either(row("aaaaaa", 0), row("aaaaaa", 0))
	early.Spots[6].Tag = 1
	late.Spots[11].Tag = 2
	shorter := either(row("aaaaaa", 0), row("aaaaaaa", 1))
	crossed := either(row("aaaa", 0), row("aaaa", 0))
	// The two may change places, but each place is marked alike.
	crossed.Follow[1], crossed.Follow[5] = []int{2, 6}, []int{2, 6}
	crossed.Spots[2].Tag, crossed.Spots[6].Tag = 1, 1
	deadly := either(row("abc", 1), row("abd", 2))
	// They part where they are marked, and come together behind it.
	eye := api.Machine{Spots: []api.Spot{spot("a", 0), spot("b", 1), spot("b", 2), spot("c", 0)}, First: []int{0}, Follow: [][]int{{1, 2}, {3}, {3}, nil}, Last: []bool{false, false, false, true}}
	blind := nfa.Copy(eye)
	blind.Follow[2] = nil
	loop := api.Machine{Spots: []api.Spot{spot("ab", 1), spot("bc", 2)}, First: []int{0}, Follow: [][]int{{0, 1}, {1}}, Last: []bool{false, true}}
	loose := nfa.Copy(loop)
	loose.Spots[1].Set = octets.Of('c')
	onlyEmpty := api.Machine{Empty: true}
	apart := either(row("ab", 1), row("ab", 2))
	apart.First = []int{0}
	emptied := either(row("a", 1), row("a", 2))
	emptied.Spots[1].Set = api.Set{}
	unending := full(20)
	for k := range 20 {
		unending.Spots[k].Tag = uint8(k % 3)
	}
	mixed := nfa.Copy(unending)
	clear(unending.Last)
	for _, x := range []struct {
		name string
		m    api.Machine
		want bool
	}{
		{"zero", api.Machine{}, true},
		{"only Empty", onlyEmpty, true},
		{"one text", row("abc", 1), true},
		{"url", url(), true},
		{"two rows, alike", either(row("ab", 1), row("ab", 1)), true},
		{"two rows of unlike lengths", shorter, true},
		{"two rows of unlike texts", deadly, true},
		{"unlike at the first byte", early, false},
		{"unlike at the last byte", late, false},
		{"alike, and crossed", crossed, true},
		{"unlike in the midst", eye, false},
		{"of unlike ones one is not useful", blind, true},
		{"one byte that both read", loop, false},
		{"no byte that both read", loose, true},
		{"one is not first", apart, true},
		{"one has no byte", emptied, true},
		{"none is last", unending, true},
		{"all are last", mixed, false},
		{"full, of one tag", full(250), true},
	} {
		if got := fst.Single(x.m); got != x.want {
			t.Errorf("%s: %v", x.name, got)
		}
		if len(x.m.Spots) < 50 && single(x.m) != x.want {
			t.Errorf("%s: the model tells the other", x.name)
		}
	}
}

// P14.2: all tags, and all bytes, are told apart.
func TestSingleBytes(t *testing.T) {
	for a := range uint8(3) {
		for b := range uint8(3) {
			if got := fst.Single(either(row("x", a), row("x", b))); got != (a == b) {
				t.Errorf("the tags %d and %d: %v", a, b, got)
			}
		}
	}
	for c := range 256 {
		m := either(row("a", 1), row("b", 2))
		m.Spots[0].Set, m.Spots[1].Set = octets.Of(byte(c)), octets.Not(octets.Of(byte(c)))
		if !fst.Single(m) {
			t.Fatalf("%d apart", c)
		}
		m.Spots[1].Set = octets.Range(byte(c), 255)
		if fst.Single(m) {
			t.Fatalf("%d in both", c)
		}
	}
}

// P14.2: two rings, of unlike tags, which end well at once only behind so many bytes that both lengths fit, or never.
func TestSingleRings(t *testing.T) {
	for _, x := range []struct {
		a, b, lastA, lastB int
		want               bool
	}{
		{7, 11, 3, 5, false}, {6, 10, 1, 2, true}, {6, 10, 1, 3, false}, {124, 125, 0, 124, false}, {124, 126, 0, 125, true}, {124, 126, 0, 124, false}, {1, 249, 0, 7, false}, {2, 248, 0, 7, true},
	} {
		m := either(ring(x.a, x.lastA, 1), ring(x.b, x.lastB, 2))
		if got := fst.Single(m); got != x.want {
			t.Errorf("%v: %v", x, got)
		}
		// Now each but one byte is marked alike.
		for k := range m.Spots {
			m.Spots[k].Tag = 0
		}
		m.Spots[x.a+x.lastB].Tag = 2
		if got := fst.Single(m); got != x.want {
			t.Errorf("%v, the last byte: %v", x, got)
		}
		m.Spots[x.a+x.lastB].Tag = 0
		if !fst.Single(m) {
			t.Errorf("%v: not single-valued without a mark", x)
		}
	}
}

// P14.2, P14.3: Single of machines without a plan, against both models; numbered anew and trimmed it is the same.
func TestSingleModel(t *testing.T) {
	plan := chance(3)
	tried := words(6, 'a', 'b')
	yes, no, shown := 0, 0, 0
	for i := range 3000 {
		m := plan.machine(2+plan.below(7), 2+i%3, "ab")
		if i%2 == 0 {
			m = plan.guided(3 + plan.below(12))
		}
		want := single(m)
		trimmed, _ := nfa.Trim(m)
		for name, other := range map[string]api.Machine{"as it is": m, "trimmed": trimmed, "turned": plan.turned(m), "copied": nfa.Copy(m)} {
			if got := fst.Single(other); got != want {
				t.Fatalf("%s: %v: %v, not %v", name, m, got, want)
			}
		}
		if want {
			yes++
		} else {
			no++
		}
		// Words of six bytes show it of most.
		if i%10 < 3 && !same(m, tried) {
			shown++
			if want {
				t.Fatalf("%v: it marks one word unlike", m)
			}
		}
	}
	if yes < 500 || no < 500 || shown < 100 {
		t.Errorf("%d are single-valued, %d not, as words show of %d", yes, no, shown)
	}
}

// P14.2: greater machines without a plan, against the pairs' model.
func TestSingleGreat(t *testing.T) {
	plan := chance(4)
	yes, no := 0, 0
	for i := range 60 {
		many := 20 + plan.below(40)
		m := plan.guided(many)
		if i%3 == 0 {
			// In two halves of unlike tags, which share no letter, there is a run of each side by side.
			m = plan.machine(many, many/4, "abcd")
			for k := range m.Spots {
				side := uint8(k % 2)
				m.Spots[k] = api.Spot{Set: plan.set([]string{"ab", "cd"}[side], 2), Tag: side}
			}
		}
		want := single(m)
		if got := fst.Single(m); got != want {
			t.Fatalf("%v: %v, not %v", m, got, want)
		}
		if want {
			yes++
		} else {
			no++
		}
	}
	if yes < 15 || no < 15 {
		t.Errorf("%d are single-valued, %d not", yes, no)
	}
}

// P14.2: as many spots, and as many ways on, as there may be, or nearly: it comes to an end soon.
func TestSingleFull(t *testing.T) {
	halves := func() api.Machine {
		m := full(250)
		for k := range m.Spots {
			side := k % 2
			m.Spots[k] = spot([]string{"ab", "cd"}[side], uint8(side))
		}
		return m
	}
	if !fst.Single(halves()) {
		t.Errorf("two halves that share no byte")
	}
	m := halves()
	m.Spots[249].Set = octets.Of('d', 'a')
	if fst.Single(m) {
		t.Errorf("two halves that share a byte")
	}
	const many = 80
	m = full(many)
	m.Spots[0].Tag = 1
	for k := range many - 1 {
		m.Last[k] = false
	}
	if fst.Single(m) {
		t.Errorf("all spots, of which one is marked, and another one is last")
	}
	// It can't be read into any more in a run that ends well.
	for k := range m.Follow {
		m.Follow[k] = m.Follow[k][1:]
	}
	if fst.Single(m) {
		t.Errorf("the one that is marked is first alone")
	}
	m.First = m.First[1:]
	if !fst.Single(m) {
		t.Errorf("the one that is marked is behind none")
	}
	// The two ways are apart from the first byte on, and come to unlike ends.
	m = full(many)
	for k := range m.Follow {
		m.Follow[k] = nil
		for j := k % 2; j < many; j += 2 {
			m.Follow[k] = append(m.Follow[k], j)
		}
		m.Spots[k].Tag, m.Last[k] = uint8(k%2), k%2 == 0
	}
	if !fst.Single(m) {
		t.Errorf("two halves that go side by side, of which one ends well")
	}
	m.Last[many-1] = true
	if fst.Single(m) {
		t.Errorf("two halves that go side by side")
	}
}

// P14.1, P14.2: of one that is not right, whether it says Empty or not.
func TestWrong(t *testing.T) {
	for why, m := range wrong() {
		for _, empty := range []bool{false, true} {
			m.Empty = empty
			for _, w := range []string{"", "a", "b", "ab", "cb", "\xff"} {
				if l, ok := fst.Marks(m, w); len(l) != 0 || ok {
					t.Errorf("%s, Empty %v: %q: %v, %v", why, empty, w, l, ok)
				}
				if p := fst.Run(m, w); p != (api.Parsed{}) {
					t.Errorf("%s, Empty %v: %q: %v", why, empty, w, p)
				}
			}
			if fst.Single(m) {
				t.Errorf("%s, Empty %v: single-valued", why, empty)
			}
		}
	}
}

// R3: asked again, it answers the same.
func TestAgain(t *testing.T) {
	plan := chance(5)
	for range 20 {
		m := plan.machine(30, 6, "abc")
		w := plan.read(m, 20)
		want, ok := fst.Marks(m, w)
		single := fst.Single(m)
		for range 20 {
			if got, again := fst.Marks(m, w); !slices.Equal(got, want) || again != ok || fst.Single(m) != single {
				t.Fatalf("%v of %q: %v, %v, not %v, %v; Single %v", m, w, got, again, want, ok, single)
			}
		}
	}
}

// R4: what is handed in is not changed, its spare room neither; what was told stays when it is changed later, and shares no memory with what is told again.
func TestMemory(t *testing.T) {
	plan := chance(6)
	for range 60 {
		m := roomy(plan.guided(4 + plan.below(9)))
		w := plan.read(m, 8)
		before := allOf(m)
		list, _ := fst.Marks(m, w)
		p := fst.Run(m, w)
		fst.Single(m)
		if allOf(m) != before {
			t.Fatalf("it was changed: %s, not %s", allOf(m), before)
		}
		want, told := slices.Clone(list), api.Parsed{OK: p.OK, Host: strings.Clone(p.Host), Path: strings.Clone(p.Path)}
		again, _ := fst.Marks(m, w)
		for i := range again[:cap(again)] {
			again[:cap(again)][i] = 9
		}
		clear(m.Spots)
		clear(m.First)
		clear(m.Last)
		for _, next := range m.Follow {
			clear(next)
		}
		if !slices.Equal(list, want) || p != told {
			t.Fatalf("%v, %v, not %v, %v", list, p, want, told)
		}
	}
}
