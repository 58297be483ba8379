package classes_test

import (
	"bytes"
	"math"
	"slices"
	"testing"

	"shibboleth/api"
	"shibboleth/classes"
	"shibboleth/octets"
)

// in says by the chapter of sets whether c is in s.
func in(s api.Set, c int) bool {
	return s[c/64]>>(c%64)&1 == 1
}

// halves are eight sets that tell all bytes apart: those of the bytes whose k-th bit is 1.
func halves() []api.Set {
	sets := make([]api.Set, 8)
	for k := range sets {
		for c := range 256 {
			if c>>k&1 == 1 {
				sets[k][c/64] |= 1 << (c % 64)
			}
		}
	}
	return sets
}

// singles are the 256 sets of one byte each.
func singles() []api.Set {
	sets := make([]api.Set, 256)
	for c := range sets {
		sets[c] = octets.Of(byte(c))
	}
	return sets
}

// scattered are n sets without a plan; sparse ones, if few is above 0: each byte is in with a chance of 1 in 2^(few+1).
func scattered(n, few int, seed uint64) []api.Set {
	sets := make([]api.Set, n)
	for k := range sets {
		for i := range sets[k] {
			word := uint64(math.MaxUint64)
			for range few + 1 {
				seed = seed*6364136223846793005 + 1442695040888963407
				word &= seed ^ seed>>29
			}
			sets[k][i] = word
		}
	}
	return sets
}

// rows are rows of sets of many kinds.
func rows() [][]api.Set {
	all, letters := octets.All(), octets.Range('a', 'z')
	rows := [][]api.Set{
		nil,
		{},
		{{}},
		{all},
		{{}, all, {}},
		{octets.Of('a')},
		{octets.Not(octets.Of('a'))},
		{octets.Of('a'), octets.Not(octets.Of('a'))},
		{octets.Of('a'), octets.Of('a'), octets.Of('a')},
		{octets.Of('a'), letters},
		{letters, octets.Of('a')},
		{letters, octets.Range('m', 'p'), octets.Range('0', '9'), octets.Range('n', 250)},
		{octets.Of(0)},
		{octets.Of(255)},
		{octets.Of(63), octets.Of(64)},
		{octets.Range(0, 63), octets.Range(64, 127), octets.Range(128, 191), octets.Range(192, 255)},
		{octets.Range(0, 127), octets.Range(127, 255)},
		{octets.Of(0, 64, 128, 192, 255), octets.Range(60, 200)},
		halves(),
		halves()[:7],
		halves()[1:],
		singles(),
		singles()[:255],
		singles()[:254],
		singles()[2:],
	}
	for n := range 9 {
		rows = append(rows, scattered(n, 0, uint64(n)), scattered(n, 3, uint64(n+100)), scattered(10*n, 6, uint64(n+200)))
	}
	return rows
}

// told tells whether the sets tell the two bytes apart.
func told(sets []api.Set, a, b int) bool {
	return slices.ContainsFunc(sets, func(s api.Set) bool { return in(s, a) != in(s, b) })
}

// partition is the sets' one, by the chapter's words alone.
func partition(sets []api.Set) classes.Part {
	var p classes.Part
	var heads []int
	for c := range 256 {
		k := slices.IndexFunc(heads, func(head int) bool { return !told(sets, head, c) })
		if k < 0 {
			k = len(heads)
			heads = append(heads, c)
		}
		p.Of[c] = uint8(k)
	}
	p.N = len(heads)
	return p
}

// wrong are partitions that are not one of any sets.
func wrong() []classes.Part {
	var parts []classes.Part
	for _, n := range []int{math.MinInt, -1, 0, 1, 3, 4, 255, 256, 257, 1 << 40, math.MaxInt} {
		p := classes.Refine(octets.Of('a'))
		p.N = n
		parts = append(parts, p)
	}
	for _, n := range []int{math.MinInt, -1, 0, 2, 256, 257, math.MaxInt} {
		parts = append(parts, classes.Part{N: n})
	}
	for _, n := range []int{-1, 0, 1, 255, 257, 512, math.MaxInt} {
		p := classes.Refine(singles()...)
		p.N = n
		parts = append(parts, p)
	}
	change := func(p classes.Part, c int, class uint8) {
		p.Of[c] = class
		parts = append(parts, p)
	}
	three := classes.Refine(octets.Of('a'), octets.Of('b'))
	change(three, 0, 1)
	change(three, 0, 255)
	change(three, 'a', 0)
	change(three, 'a', 2)
	change(three, 'b', 3)
	change(three, 'b', 1)
	change(three, 255, 3)
	change(three, 255, 255)
	change(classes.Refine(singles()...), 255, 254)
	change(classes.Refine(singles()...), 0, 255)
	change(classes.Refine(), 255, 1)
	swapped := classes.Refine(octets.Of('a'))
	for c := range swapped.Of {
		swapped.Of[c] = 1 - swapped.Of[c]
	}
	parts = append(parts, swapped)
	from1 := classes.Part{N: 1}
	for c := range from1.Of {
		from1.Of[c] = 1
	}
	return append(parts, from1)
}

// P2.1: Refine is what the chapter's words say, of ordinary sets and at all edges.
func TestRefine(t *testing.T) {
	for i, sets := range rows() {
		if got, want := classes.Refine(sets...), partition(sets); got != want {
			t.Errorf("row %d: %d classes, not %d: %v", i, got.N, want.N, got.Of)
		}
	}
}

// P2.1: of no sets, and of those that tell nothing apart, there is one class.
func TestRefineOfNothing(t *testing.T) {
	one := classes.Part{N: 1}
	for _, p := range []classes.Part{
		classes.Refine(),
		classes.Refine(api.Set{}),
		classes.Refine(octets.All()),
		classes.Refine(api.Set{}, octets.All(), api.Set{}),
	} {
		if p != one || !p.Right() {
			t.Errorf("%d classes: %v", p.N, p.Of)
		}
	}
}

// P2.1: all bytes told apart make 256 classes, each byte its own one.
func TestRefineOfAllApart(t *testing.T) {
	for _, sets := range [][]api.Set{halves(), singles(), singles()[:255], singles()[1:]} {
		p := classes.Refine(sets...)
		if p.N != 256 {
			t.Errorf("%d classes", p.N)
		}
		for c := range 256 {
			if int(p.Of[c]) != c {
				t.Errorf("the class of %d: %d", c, p.Of[c])
			}
		}
	}
}

// P2.1: neither the row of the sets, nor how often one stands there, changes anything.
func TestRefineOfAnotherRow(t *testing.T) {
	for i, sets := range rows() {
		p := classes.Refine(sets...)
		back := slices.Clone(sets)
		slices.Reverse(back)
		if classes.Refine(back...) != p {
			t.Errorf("row %d, the other way round", i)
		}
		if classes.Refine(append(back, sets...)...) != p {
			t.Errorf("row %d, twice", i)
		}
		for k := range back {
			back[k] = octets.Not(back[k])
		}
		if classes.Refine(back...) != p {
			t.Errorf("row %d, of the sets' Nots", i)
		}
	}
}

// P2.1: very many sets.
func TestRefineOfManySets(t *testing.T) {
	many := make([]api.Set, 0, 200000)
	for range 25000 {
		many = append(many, halves()...)
	}
	if p := classes.Refine(many...); p.N != 256 || !p.Right() {
		t.Errorf("%d classes", p.N)
	}
}

// R4: Refine leaves its sets as they are, those behind their end too.
func TestRefineLeavesItsSets(t *testing.T) {
	room := scattered(6, 1, 7)
	kept := slices.Clone(room)
	p := classes.Refine(room[:3]...)
	if !slices.Equal(room, kept) {
		t.Errorf("the sets have changed: %x", room)
	}
	room[0] = api.Set{}
	if p != partition(kept[:3]) {
		t.Errorf("the partition hangs on its sets' memory")
	}
}

// P2.1: what Refine answers is right.
func TestRightOfRefine(t *testing.T) {
	for i, sets := range rows() {
		if !classes.Refine(sets...).Right() {
			t.Errorf("row %d is not right", i)
		}
	}
}

// P2.1: what is right is one of some sets, those of its classes: each single byte that is put elsewhere is tried.
func TestRightOfChanged(t *testing.T) {
	for _, sets := range [][]api.Set{nil, {octets.Of('a')}, {octets.Of('a'), octets.Range('a', 'z')}, singles()} {
		right := classes.Refine(sets...)
		for c := range 256 {
			for _, class := range []uint8{0, 1, 2, 3, 4, uint8(c - 1), uint8(c + 1), 254, 255} {
				for _, more := range []int{-1, 0, 1} {
					p := right
					p.Of[c] = class
					p.N += more
					if p.Right() != isOne(p) {
						t.Fatalf("Right of %d classes, byte %d in class %d: %v", p.N, c, class, p.Right())
					}
				}
			}
		}
	}
}

// isOne tells by the chapter's words whether p is one of some sets: each class has a byte, and their least bytes rise.
func isOne(p classes.Part) bool {
	before := -1
	for k := range 256 {
		least := bytes.IndexByte(p.Of[:], uint8(k))
		if (least >= 0) != (k < p.N) || least >= 0 && least < before {
			return false
		}
		before = least
	}
	return p.N >= 1 && p.N <= 256
}

// P2.1: what is not right.
func TestRightOfWrong(t *testing.T) {
	for i, p := range append(wrong(), classes.Part{}) {
		if p.Right() || isOne(p) {
			t.Errorf("wrong partition %d of %d classes is right", i, p.N)
		}
	}
}

// P2.2: Sets are the classes, by their numbers.
func TestSets(t *testing.T) {
	for i, sets := range rows() {
		p := classes.Refine(sets...)
		own := p.Sets()
		if len(own) != p.N {
			t.Fatalf("row %d: %d sets of %d classes", i, len(own), p.N)
		}
		for k, s := range own {
			for c := range 256 {
				if in(s, c) != (int(p.Of[c]) == k) {
					t.Errorf("row %d, class %d, byte %d", i, k, c)
				}
			}
		}
		if classes.Refine(own...) != p {
			t.Errorf("row %d: not the partition of its own classes", i)
		}
	}
}

// P2.2: Least, of ordinary numbers, of none and of more than there are.
func TestLeast(t *testing.T) {
	for i, sets := range rows() {
		p := classes.Refine(sets...)
		for _, k := range []int{math.MinInt, -2, -1, 0, 1, 2, 3, 10, 255, 256, 257, math.MaxInt} {
			want := make([][]byte, p.N)
			for c := range 256 {
				if class := p.Of[c]; len(want[class]) < k {
					want[class] = append(want[class], byte(c))
				}
			}
			if got := p.Least(k); !slices.EqualFunc(got, want, bytes.Equal) {
				t.Errorf("row %d, Least(%d): %v, not %v", i, k, got, want)
			}
		}
	}
}

// P2.2: Splits, held against the chapter's words.
func TestSplits(t *testing.T) {
	asked := slices.Concat(singles(), halves(), scattered(10, 0, 5), scattered(10, 5, 6),
		[]api.Set{{}, octets.All(), octets.Range('a', 'z'), octets.Range('a', 'c'), octets.Range(0, 127)})
	for i, sets := range rows() {
		p := classes.Refine(sets...)
		for _, s := range slices.Concat(asked, sets) {
			if p.Splits(s) != splits(p, s) {
				t.Errorf("row %d, Splits(%x): %v", i, s, p.Splits(s))
			}
		}
	}
}

// splits tells by the chapter's words whether s tells two bytes of one class apart.
func splits(p classes.Part, s api.Set) bool {
	for a := range 256 {
		for b := range a {
			if p.Of[a] == p.Of[b] && in(s, a) != in(s, b) {
				return true
			}
		}
	}
	return false
}

// P2.2: of a partition that is not right, all calls end.
func TestWrongOnesEnd(t *testing.T) {
	for _, p := range append(wrong(), classes.Part{}) {
		p.Sets()
		p.Splits(octets.Range('a', 'c'))
		for _, k := range []int{math.MinInt, -1, 0, 1, 300, math.MaxInt} {
			p.Least(k)
		}
	}
}

// R4: what is answered is new memory, and no two lists of one answer share any.
func TestAnswersAreNew(t *testing.T) {
	p := classes.Refine(octets.Of('a'), octets.Range('a', 'z'))
	own := p.Sets()
	own[0] = api.Set{}
	if p.Sets()[0] != octets.Not(octets.Range('a', 'z')) {
		t.Errorf("the sets are the same memory")
	}
	least := p.Least(2)
	for i := range least {
		whole := least[i][:cap(least[i])]
		for k := range whole {
			whole[k] = byte(200 + i)
		}
	}
	for i := range least {
		for _, c := range least[i][:cap(least[i])] {
			if c != byte(200+i) {
				t.Errorf("list %d shares memory with another one", i)
			}
		}
	}
	if string(p.Least(2)[2]) != "bc" {
		t.Errorf("the lists are the same memory: %q", p.Least(2))
	}
}

// P2.3: each set is the union of some classes, and so split by none.
func TestSetsAreUnions(t *testing.T) {
	for i, sets := range rows() {
		p := classes.Refine(sets...)
		for _, s := range sets {
			var union api.Set
			for _, own := range p.Sets() {
				if octets.And(own, s) != (api.Set{}) {
					union = octets.Or(union, own)
				}
			}
			if union != s || p.Splits(s) {
				t.Errorf("row %d: %x is no union of classes", i, s)
			}
		}
	}
}

// P2.3: the classes are as few as can be: any two of them are told apart by one of the sets.
func TestAsFewAsCanBe(t *testing.T) {
	for i, sets := range rows() {
		least := classes.Refine(sets...).Least(1)
		for a := range least {
			for b := range a {
				if !told(sets, int(least[a][0]), int(least[b][0])) {
					t.Errorf("row %d: classes %d and %d could be one", i, a, b)
				}
			}
		}
	}
}

// P2.3: more sets never make two classes one; they make more just where they split one.
func TestMoreSets(t *testing.T) {
	for i, sets := range rows() {
		for n := range sets {
			few, more := classes.Refine(sets[:n]...), classes.Refine(sets[:n+1]...)
			coarse := few.Sets()
			if few.Splits(sets[n]) != (more.N > few.N) || more.N < few.N {
				t.Errorf("row %d: from %d classes to %d by set %d", i, few.N, more.N, n)
			}
			for _, own := range more.Sets() {
				first, _ := octets.First(own)
				if octets.And(own, coarse[few.Of[first]]) != own {
					t.Errorf("row %d: set %d has made one class of two", i, n)
				}
			}
		}
	}
}

// The chapter's table of examples.
func TestExamples(t *testing.T) {
	if classes.Refine().N != 1 {
		t.Errorf("Refine().N: %d", classes.Refine().N)
	}
	p := classes.Refine(octets.Of('a'), octets.Range('a', 'z'))
	if p.N != 3 || p.Of[0] != 0 || p.Of['a'] != 1 || p.Of['b'] != 2 {
		t.Errorf("Refine(Of('a'), Range('a', 'z')): %d, %d, %d, %d", p.N, p.Of[0], p.Of['a'], p.Of['b'])
	}
	want := []api.Set{octets.Not(octets.Range('a', 'z')), octets.Of('a'), octets.Range('b', 'z')}
	if !slices.Equal(p.Sets(), want) {
		t.Errorf("Sets: %x", p.Sets())
	}
	if got := p.Least(2); !slices.EqualFunc(got, [][]byte{{0, 1}, {'a'}, {'b', 'c'}}, bytes.Equal) {
		t.Errorf("Least(2): %v", got)
	}
	if p.Splits(octets.Range('a', 'z')) || !p.Splits(octets.Range('a', 'c')) {
		t.Errorf("Splits: %v, %v", p.Splits(octets.Range('a', 'z')), p.Splits(octets.Range('a', 'c')))
	}
}
