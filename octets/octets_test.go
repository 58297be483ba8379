package octets_test

import (
	"bytes"
	"testing"

	"shibboleth/api"
	"shibboleth/octets"
)

// edges are the bytes at which one of a set's four numbers begins or ends, and their like.
var edges = []byte{0, 1, 62, 63, 64, 65, 127, 128, 129, 191, 192, 193, 254, 255}

// samples are sets of many kinds: none, all, single bytes, runs over the numbers' ends, and scattered ones.
func samples() []api.Set {
	sets := []api.Set{
		{},
		{1<<64 - 1, 1<<64 - 1, 1<<64 - 1, 1<<64 - 1},
		{1<<64 - 1, 0, 0, 0},
		{0, 1<<64 - 1, 0, 0},
		{0, 0, 1<<64 - 1, 0},
		{0, 0, 0, 1<<64 - 1},
		{0x5555555555555555, 0xaaaaaaaaaaaaaaaa, 0x3333333333333333, 0xf0f0f0f0f0f0f0f0},
		{1 << 63, 1 | 1<<63, 1 | 1<<63, 1},
	}
	for _, c := range edges {
		var one api.Set
		one[c/64] = 1 << (c % 64)
		sets = append(sets, one)
	}
	x := uint64(20)
	for range 20 {
		var s api.Set
		for i := range s {
			x = x*6364136223846793005 + 1442695040888963407
			s[i] = x ^ x>>29
		}
		sets = append(sets, s)
	}
	return sets
}

// in says by the chapter's own words whether c is in s.
func in(s api.Set, c int) bool {
	return s[c/64]>>(c%64)&1 == 1
}

// P1.1: Of.
func TestOf(t *testing.T) {
	cases := []struct {
		bs   []byte
		want api.Set
	}{
		{nil, api.Set{}},
		{[]byte{}, api.Set{}},
		{[]byte{0}, api.Set{1, 0, 0, 0}},
		{[]byte{63}, api.Set{1 << 63, 0, 0, 0}},
		{[]byte{64}, api.Set{0, 1, 0, 0}},
		{[]byte{127}, api.Set{0, 1 << 63, 0, 0}},
		{[]byte{128}, api.Set{0, 0, 1, 0}},
		{[]byte{191}, api.Set{0, 0, 1 << 63, 0}},
		{[]byte{192}, api.Set{0, 0, 0, 1}},
		{[]byte{255}, api.Set{0, 0, 0, 1 << 63}},
		{[]byte{'a', 0, 255}, api.Set{1, 1 << 33, 0, 1 << 63}},
		{[]byte{255, 'a', 0, 'a', 255, 0}, api.Set{1, 1 << 33, 0, 1 << 63}},
		{[]byte{0, 63, 64, 127, 128, 191, 192, 255}, api.Set{1 | 1<<63, 1 | 1<<63, 1 | 1<<63, 1 | 1<<63}},
	}
	for _, c := range cases {
		if got := octets.Of(c.bs...); got != c.want {
			t.Errorf("Of(%v): %x, not %x", c.bs, got, c.want)
		}
	}
	if octets.Of() != (api.Set{}) {
		t.Errorf("Of without bytes: %x", octets.Of())
	}
	if got := octets.Of(bytes.Repeat([]byte{7}, 1000)...); got != (api.Set{1 << 7}) {
		t.Errorf("Of a thousand times 7: %x", got)
	}
}

// R4: what is handed to Of is not changed, its spare room neither.
func TestOfLeavesItsBytes(t *testing.T) {
	room := []byte{9, 3, 9, 200, 5}
	octets.Of(room[:3]...)
	if !bytes.Equal(room, []byte{9, 3, 9, 200, 5}) {
		t.Errorf("Of changed its bytes: %v", room)
	}
}

// P1.1: Range, with all ends, the wrong way round too.
func TestRange(t *testing.T) {
	for from := range 256 {
		for to := range 256 {
			var want api.Set
			for c := range 256 {
				if c >= from && c <= to {
					want[c/64] |= 1 << (c % 64)
				}
			}
			if got := octets.Range(byte(from), byte(to)); got != want {
				t.Fatalf("Range(%d, %d): %x, not %x", from, to, got, want)
			}
		}
	}
	for _, wrong := range []api.Set{octets.Range('c', 'a'), octets.Range(255, 0), octets.Range(64, 63)} {
		if wrong != (api.Set{}) {
			t.Errorf("a range whose end is below its beginning: %x", wrong)
		}
	}
}

// P1.1: All and Has.
func TestAllAndHas(t *testing.T) {
	if octets.All() != (api.Set{1<<64 - 1, 1<<64 - 1, 1<<64 - 1, 1<<64 - 1}) {
		t.Errorf("All: %x", octets.All())
	}
	for _, s := range samples() {
		for c := range 256 {
			if octets.Has(s, byte(c)) != in(s, c) {
				t.Errorf("Has(%x, %d) is not %v", s, c, in(s, c))
			}
		}
	}
}

// P1.2: And, Or and Not, byte by byte.
func TestAndOrNot(t *testing.T) {
	for _, a := range samples() {
		not := octets.Not(a)
		for c := range 256 {
			if in(not, c) == in(a, c) {
				t.Errorf("Not(%x) at %d", a, c)
			}
		}
		for _, b := range samples() {
			and, or := octets.And(a, b), octets.Or(a, b)
			for c := range 256 {
				if in(and, c) != (in(a, c) && in(b, c)) {
					t.Errorf("And(%x, %x) at %d", a, b, c)
				}
				if in(or, c) != (in(a, c) || in(b, c)) {
					t.Errorf("Or(%x, %x) at %d", a, b, c)
				}
			}
		}
	}
}

// P1.2: Count, First and List.
func TestCountFirstList(t *testing.T) {
	for _, s := range samples() {
		var want []byte
		for c := range 256 {
			if in(s, c) {
				want = append(want, byte(c))
			}
		}
		if got := octets.Count(s); got != len(want) {
			t.Errorf("Count(%x): %d, not %d", s, got, len(want))
		}
		if got := octets.List(s); !bytes.Equal(got, want) {
			t.Errorf("List(%x): %v, not %v", s, got, want)
		}
		first, ok := octets.First(s)
		if ok != (len(want) > 0) || ok && first != want[0] || !ok && first != 0 {
			t.Errorf("First(%x): %d, %v", s, first, ok)
		}
	}
}

// P1.2: the set of none and the set of all.
func TestNoneAndAll(t *testing.T) {
	var none api.Set
	if c, ok := octets.First(none); c != 0 || ok {
		t.Errorf("First of none: %d, %v", c, ok)
	}
	if octets.Count(none) != 0 || len(octets.List(none)) != 0 {
		t.Errorf("none: %d, %v", octets.Count(none), octets.List(none))
	}
	if c, ok := octets.First(octets.All()); c != 0 || !ok {
		t.Errorf("First of all: %d, %v", c, ok)
	}
	if octets.Count(octets.All()) != 256 || len(octets.List(octets.All())) != 256 {
		t.Errorf("all: %d, %v", octets.Count(octets.All()), octets.List(octets.All()))
	}
	if octets.Not(none) != octets.All() || octets.Not(octets.All()) != none {
		t.Errorf("none and all are not each other's Not")
	}
}

// R4: each list is new memory.
func TestListsAreNew(t *testing.T) {
	s := octets.Range('a', 'c')
	one := octets.List(s)
	two := octets.List(s)
	one[0] = 'z'
	_ = append(one, 'y')
	if string(two) != "abc" || string(octets.List(s)) != "abc" {
		t.Errorf("a list changed another one: %q, %q", two, octets.List(s))
	}
}

// P1.3: And, Or and Not as an algebra.
func TestAlgebra(t *testing.T) {
	and, or, not := octets.And, octets.Or, octets.Not
	none, all := api.Set{}, octets.All()
	for _, a := range samples() {
		laws := []bool{
			and(a, a) == a, or(a, a) == a, not(not(a)) == a,
			and(a, none) == none, and(a, all) == a,
			or(a, none) == a, or(a, all) == all,
			and(a, not(a)) == none, or(a, not(a)) == all,
			octets.Count(a)+octets.Count(not(a)) == 256,
		}
		for i, holds := range laws {
			if !holds {
				t.Errorf("law %d of %x", i, a)
			}
		}
		for _, b := range samples() {
			laws := []bool{
				and(a, b) == and(b, a), or(a, b) == or(b, a),
				not(and(a, b)) == or(not(a), not(b)),
				not(or(a, b)) == and(not(a), not(b)),
				and(a, or(a, b)) == a, or(a, and(a, b)) == a,
				octets.Count(a)+octets.Count(b) == octets.Count(and(a, b))+octets.Count(or(a, b)),
			}
			for i, holds := range laws {
				if !holds {
					t.Errorf("law %d of %x and %x", i, a, b)
				}
			}
		}
	}
}

// P1.3: what goes over three sets.
func TestDistribution(t *testing.T) {
	and, or := octets.And, octets.Or
	for _, a := range samples() {
		for _, b := range samples() {
			for _, c := range samples() {
				if and(a, or(b, c)) != or(and(a, b), and(a, c)) || or(a, and(b, c)) != and(or(a, b), or(a, c)) {
					t.Fatalf("distribution over %x, %x, %x", a, b, c)
				}
				if and(a, and(b, c)) != and(and(a, b), c) || or(a, or(b, c)) != or(or(a, b), c) {
					t.Fatalf("association of %x, %x, %x", a, b, c)
				}
			}
		}
	}
}

// P1.3: two sets that have the same bytes are the same, and List told to Of is the set again.
func TestListToldToOf(t *testing.T) {
	for _, a := range samples() {
		if octets.Of(octets.List(a)...) != a {
			t.Errorf("List of %x told to Of: %x", a, octets.Of(octets.List(a)...))
		}
		for _, b := range samples() {
			if bytes.Equal(octets.List(a), octets.List(b)) != (a == b) {
				t.Errorf("lists and sets of %x and %x", a, b)
			}
		}
	}
	for c := range 256 {
		one := octets.Of(byte(c))
		if one != octets.Range(byte(c), byte(c)) || !bytes.Equal(octets.List(one), []byte{byte(c)}) {
			t.Errorf("the set of %d: %x", c, one)
		}
	}
}

// The chapter's table of examples.
func TestExamples(t *testing.T) {
	if s := octets.Of('a', 0, 255); s != (api.Set{1, 1 << 33, 0, 1 << 63}) {
		t.Errorf("Of('a', 0, 255): %x", s)
	}
	s := octets.Range('a', 'c')
	first, ok := octets.First(s)
	if s != (api.Set{0, 7 << 33, 0, 0}) || octets.Count(s) != 3 || first != 'a' || !ok || string(octets.List(s)) != "abc" {
		t.Errorf("Range('a', 'c'): %x, %d, %d, %v, %q", s, octets.Count(s), first, ok, octets.List(s))
	}
	s = octets.Range('c', 'a')
	if first, ok = octets.First(s); s != (api.Set{}) || first != 0 || ok {
		t.Errorf("Range('c', 'a'): %x, %d, %v", s, first, ok)
	}
	if octets.Not(octets.Range(1, 255)) != octets.Of(0) || octets.Count(octets.All()) != 256 {
		t.Errorf("Not(Range(1, 255)): %x; Count(All()): %d", octets.Not(octets.Range(1, 255)), octets.Count(octets.All()))
	}
}
