package tally_test

import (
	"math"
	"slices"
	"strconv"
	"strings"
	"testing"

	"shibboleth/tally"
)

// minus is -0, which a constant cannot be.
var minus = math.Copysign(0, -1)

// nans are NaNs of several forms: of both signs, quiet and signalling.
func nans() []float64 {
	return []float64{
		math.NaN(), math.Float64frombits(0xfff8000000000000), math.Float64frombits(0x7ff0000000000001),
		math.Float64frombits(0xfff0000000000001), math.Float64frombits(0x7fffffffffffffff), math.Float64frombits(0xffffffffffffffff),
	}
}

// rising are numbers of all kinds but NaNs, each ahead of the next.
func rising() []float64 {
	return []float64{
		math.Inf(-1), -math.MaxFloat64, -1e300, -1 << 53, -2, math.Nextafter(-1, -2), -1, -0.1, -0x1p-1022, -math.SmallestNonzeroFloat64, minus,
		0, math.SmallestNonzeroFloat64, 0x1p-1022, 0.1, 1, math.Nextafter(1, 2), 2, 1 << 53, 1<<53 + 2, 1e300, math.MaxFloat64, math.Inf(1),
	}
}

// all are the NaNs and the others.
func all() []float64 {
	return append(nans(), rising()...)
}

// place tells x from all that it is not alike, by whole numbers that rise in the order.
func place(x float64) int64 {
	bits := int64(math.Float64bits(x) &^ (1 << 63))
	switch {
	case x != x:
		return math.MinInt64
	case math.Signbit(x):
		return -1 - bits
	}
	return bits
}

// alike tells whether x and y are the same number, -0 and +0 told apart, NaNs not.
func alike(x, y float64) bool {
	return place(x) == place(y)
}

// told is what Of must tell, by the chapter's words: the numbers are taken one by one, the one that is first in the order ahead.
func told(xs []float64) tally.Tally {
	t := tally.Tally{Many: len(xs), Least: math.Inf(1), Greatest: math.Inf(-1), Mean: math.NaN()}
	var plain []float64
	for _, x := range xs {
		if x-x != 0 { // as only NaNs and infinities do
			t.Odd++
		} else {
			plain = append(plain, x)
		}
	}
	n := float64(len(plain))
	for sum := 0.0; len(plain) > 0; {
		first := 0
		for i, x := range plain {
			if place(x) < place(plain[first]) {
				first = i
			}
		}
		x := plain[first]
		if float64(len(plain)) == n {
			t.Least = x
		}
		t.Greatest = x
		sum += x
		t.Mean = sum / n
		plain = slices.Delete(plain, first, first+1)
	}
	return t
}

// equal tells whether two tallies are alike in all.
func equal(a, b tally.Tally) bool {
	return a.Many == b.Many && a.Odd == b.Odd && alike(a.Least, b.Least) && alike(a.Greatest, b.Greatest) && alike(a.Mean, b.Mean)
}

// rows are lists of all kinds: every one of up to three of all numbers, and longer ones.
func rows() [][]float64 {
	some := all()
	lists := [][]float64{nil, {}, some, rising(), nans()}
	for _, a := range some {
		lists = append(lists, []float64{a})
		for _, b := range some {
			lists = append(lists, []float64{a, b})
			for _, c := range some {
				lists = append(lists, []float64{a, b, c})
			}
		}
	}
	return append(lists, long()...)
}

// long are lists that are not short, of numbers in no order, some of them there more than once.
func long() [][]float64 {
	some := all()
	var lists [][]float64
	state := uint64(1)
	next := func() uint64 {
		state = state*6364136223846793005 + 1442695040888963407
		return state >> 16
	}
	for n := range 150 {
		list := make([]float64, n)
		bits := make([]float64, n)
		for i := range list {
			list[i] = some[next()%uint64(len(some))]
			bits[i] = math.Float64frombits(next()<<40 ^ next())
		}
		lists = append(lists, list, bits)
	}
	return lists
}

// rounds calls do with each row that the numbers can be in.
func rounds(xs []float64, do func([]float64)) {
	var put func(done, rest []float64)
	put = func(done, rest []float64) {
		if len(rest) == 0 {
			do(done)
		}
		for i, x := range rest {
			put(append(slices.Clone(done), x), slices.Delete(slices.Clone(rest), i, i+1))
		}
	}
	put(nil, xs)
}

// P5.1: Compare, of any two numbers of all kinds.
func TestCompare(t *testing.T) {
	list := rising()
	for i, a := range list {
		for k, b := range list {
			want := 0
			switch {
			case i < k:
				want = -1
			case i > k:
				want = 1
			}
			if got := tally.Compare(a, b); got != want {
				t.Errorf("Compare(%v, %v): %d, not %d", a, b, got, want)
			}
		}
	}
	for _, n := range nans() {
		for _, m := range nans() {
			if got := tally.Compare(n, m); got != 0 {
				t.Errorf("Compare(%x, %x), of NaNs: %d", math.Float64bits(n), math.Float64bits(m), got)
			}
		}
		for _, x := range list {
			if a, b := tally.Compare(n, x), tally.Compare(x, n); a != -1 || b != 1 {
				t.Errorf("Compare(%x, %v): %d, and turned round %d", math.Float64bits(n), x, a, b)
			}
		}
	}
}

// P5.1: Sort, of any list: as many, in the order, each there as often.
func TestSort(t *testing.T) {
	for _, xs := range rows() {
		want := slices.Clone(xs)
		slices.SortFunc(want, func(a, b float64) int {
			switch {
			case place(a) < place(b):
				return -1
			case place(a) > place(b):
				return 1
			}
			return 0
		})
		if got := tally.Sort(xs); !slices.EqualFunc(got, want, alike) {
			t.Errorf("Sort(%v): %v", xs, got)
		}
	}
}

// P5.1: of NaNs Sort tells math.NaN's form alone; of the others it tells the bits that were handed in.
func TestSortedBits(t *testing.T) {
	for _, xs := range rows() {
		for _, x := range tally.Sort(xs) {
			bits := math.Float64bits(x)
			if x != x {
				if bits != math.Float64bits(math.NaN()) {
					t.Fatalf("Sort(%v) tells a NaN of the form %x", xs, bits)
				}
			} else if !slices.ContainsFunc(xs, func(y float64) bool { return math.Float64bits(y) == bits }) {
				t.Fatalf("Sort(%v) tells %v, which was not handed in", xs, x)
			}
		}
	}
}

// P5.1, R4: Sort's list is a new one, also of a list that is in the order; Of and Sort leave what is handed in, and its spare room, as it is.
func TestHandedIn(t *testing.T) {
	same := func(a, b []float64) bool {
		return slices.EqualFunc(a, b, func(x, y float64) bool { return math.Float64bits(x) == math.Float64bits(y) })
	}
	for _, xs := range [][]float64{{}, {1}, {1, 2, 3}, {3, 2, 1}, nans(), rising(), all(), {0, minus, math.Inf(1), math.NaN(), -1}} {
		room := append(slices.Clone(xs), 7, -7, math.Float64frombits(0xfff0000000000007))
		kept := slices.Clone(room)
		handed := room[:len(xs)]
		sorted := tally.Sort(handed)
		tally.Of(handed...)
		if !same(room, kept) {
			t.Errorf("%v, handed in, is %v", kept, room)
		}
		for i := range sorted {
			sorted[i] = 99
		}
		if again := append(sorted, 98, 97); len(again) != len(xs)+2 || !same(room, kept) {
			t.Errorf("Sort's list of %v is the one that was handed in", kept)
		}
		for i := range room {
			room[i] = 55
		}
		if slices.Contains(sorted, 55) {
			t.Errorf("Sort's list of %v shares with the one that was handed in", kept)
		}
	}
}

// P5.1: nothing, sorted, is nothing.
func TestSortNothing(t *testing.T) {
	if len(tally.Sort(nil)) != 0 || len(tally.Sort([]float64{})) != 0 {
		t.Errorf("Sort of nothing tells something")
	}
}

// P5.2: Of, of any list, tells what the chapter's words say.
func TestOf(t *testing.T) {
	for _, xs := range rows() {
		if got, want := tally.Of(xs...), told(xs); !equal(got, want) {
			t.Errorf("Of(%v): %v, not %v", xs, got, want)
		}
	}
}

// P5.2: Of, where numbers are few and of all kinds, told by hand.
func TestOfByHand(t *testing.T) {
	inf, nan, most, tiny := math.Inf(1), math.NaN(), math.MaxFloat64, math.SmallestNonzeroFloat64
	none := func(many int) tally.Tally {
		return tally.Tally{Many: many, Odd: many, Least: inf, Greatest: -inf, Mean: nan}
	}
	cases := []struct {
		xs   []float64
		want tally.Tally
	}{
		{nil, none(0)},
		{[]float64{nan}, none(1)},
		{[]float64{inf}, none(1)},
		{[]float64{-inf}, none(1)},
		{[]float64{inf, -inf, inf}, none(3)},
		{nans(), none(6)},
		{[]float64{7}, tally.Tally{1, 0, 7, 7, 7}},
		{[]float64{-7, nan}, tally.Tally{2, 1, -7, -7, -7}},
		{[]float64{inf, -2, -inf, 1}, tally.Tally{4, 2, -2, 1, -0.5}},
		{[]float64{1, 2}, tally.Tally{2, 0, 1, 2, 1.5}},
		{[]float64{5, 5, 5}, tally.Tally{3, 0, 5, 5, 5}},
		{[]float64{0}, tally.Tally{1, 0, 0, 0, 0}},
		{[]float64{minus}, tally.Tally{1, 0, minus, minus, 0}},
		{[]float64{minus, minus}, tally.Tally{2, 0, minus, minus, 0}},
		{[]float64{0, minus}, tally.Tally{2, 0, minus, 0, 0}},
		{[]float64{minus, 0}, tally.Tally{2, 0, minus, 0, 0}},
		{[]float64{3, -3}, tally.Tally{2, 0, -3, 3, 0}},
		{[]float64{tiny}, tally.Tally{1, 0, tiny, tiny, tiny}},
		{[]float64{-tiny, -tiny}, tally.Tally{2, 0, -tiny, -tiny, -tiny}},
		{[]float64{-tiny, 0, minus}, tally.Tally{3, 0, -tiny, 0, minus}}, // a third of the least one, rounded
		{[]float64{most}, tally.Tally{1, 0, most, most, most}},
		{[]float64{1, math.Float64frombits(0x7ff0000000000001), math.Float64frombits(0xfff8000000000001)}, tally.Tally{3, 2, 1, 1, 1}},
	}
	for _, c := range cases {
		if got := tally.Of(c.xs...); !equal(got, c.want) {
			t.Errorf("Of(%v): %v, not %v", c.xs, got, c.want)
		}
	}
}

// P5.2: the sum is taken one behind the other, from the first in the order on; it is rounded, and becomes infinite, as it goes. It is divided at its end.
func TestSum(t *testing.T) {
	most, half := math.MaxFloat64, math.Ldexp(1, -53)
	cases := []struct {
		xs   []float64
		mean float64
	}{
		{[]float64{most, most}, math.Inf(1)},
		{[]float64{-most, -most}, math.Inf(-1)},
		{[]float64{most, most, -most, -most}, math.Inf(-1)}, // backwards +Inf, exactly 0
		{[]float64{most, -most, most}, most / 3},
		{[]float64{most, -most, -most}, math.Inf(-1)},
		{[]float64{most, 1}, most / 2},
		{[]float64{1, half, half}, math.Nextafter(1, 2) / 3}, // backwards 1 / 3
		{[]float64{half, 1, half}, math.Nextafter(1, 2) / 3},
		{[]float64{-1, half, half}, (-1 + 2*half) / 3},
		{[]float64{1e16, -1e16, 1}, 0}, // as handed in 1 / 3
		{[]float64{1, 1e16, -1e16}, 0},
		{[]float64{1, 1, 1e16}, (1e16 + 2) / 3},         // backwards 1e16 / 3
		{[]float64{0.1, 0.2, 0.3}, 0.20000000000000004}, // backwards 0.19999999999999998
		{[]float64{0.3, 0.2, 0.1}, 0.20000000000000004},
	}
	for _, c := range cases {
		got := tally.Of(c.xs...)
		if !alike(got.Mean, c.mean) || got.Odd != 0 || got.Many != len(c.xs) {
			t.Errorf("Of(%v): %v, the mean not %v", c.xs, got, c.mean)
		}
	}
}

// P5.3: Text, by hand, at the places where the exponent begins and ends, and at the ends of what numbers there are.
func TestText(t *testing.T) {
	cases := []struct {
		x    float64
		want string
	}{
		{math.Inf(1), "inf"}, {math.Inf(-1), "-inf"}, {0, "0"}, {minus, "-0"}, {1, "1"}, {-1, "-1"}, {12, "12"}, {-2.5, "-2.5"}, {100, "100"},
		{0.1, "0.1"}, {-0.1, "-0.1"}, {0.25, "0.25"}, {1.0 / 3, "0.3333333333333333"}, {2.0 / 3, "0.6666666666666666"},
		{0.1 + math.Ldexp(1, -56), "0.10000000000000002"}, {math.Nextafter(1, 2), "1.0000000000000002"}, {math.Nextafter(1, 0), "0.9999999999999999"},
		{0.001, "0.001"}, {0.0001, "0.0001"}, {0.00012, "0.00012"}, {0.00001, "1e-05"}, {-0.000012, "-1.2e-05"},
		{99999, "99999"}, {100000, "100000"}, {123456, "123456"}, {999999, "999999"}, {1000000, "1e+06"}, {1234567, "1.234567e+06"}, {-20000000, "-2e+07"},
		{123456.5, "123456.5"}, {1 << 53, "9.007199254740992e+15"}, {1e21, "1e+21"}, {1e22, "1e+22"}, {1e23, "1e+23"}, {1e100, "1e+100"}, {1e300, "1e+300"},
		{math.MaxFloat64, "1.7976931348623157e+308"}, {-math.MaxFloat64, "-1.7976931348623157e+308"},
		{math.SmallestNonzeroFloat64, "5e-324"}, {-math.SmallestNonzeroFloat64, "-5e-324"}, {0x1p-1022, "2.2250738585072014e-308"},
	}
	for _, c := range cases {
		if got := tally.Text(c.x); got != c.want {
			t.Errorf("Text(%v): %q, not %q", c.x, got, c.want)
		}
	}
	for _, x := range nans() {
		if got := tally.Text(x); got != "nan" {
			t.Errorf("Text of the NaN %x: %q", math.Float64bits(x), got)
		}
	}
}

// P5.3: what Text says of a number says that number again, and with one digit less no digits would.
func TestTextSaysTheNumber(t *testing.T) {
	for _, xs := range append(long(), rising()) {
		for _, x := range xs {
			if x-x != 0 {
				continue
			}
			said := tally.Text(x)
			again, err := strconv.ParseFloat(said, 64)
			if err != nil || !alike(again, x) {
				t.Errorf("Text(%v): %q, which says %v", x, said, again)
			}
			if n := digits(said); n > 1 {
				fewer, _ := strconv.ParseFloat(strconv.FormatFloat(x, 'e', n-2, 64), 64)
				if alike(fewer, x) {
					t.Errorf("Text(%v): %q, where %d digits would do", x, said, n-1)
				}
			}
		}
	}
}

// digits is how many digits of a number tell more than how great it is.
func digits(said string) int {
	said, _, _ = strings.Cut(strings.TrimPrefix(said, "-"), "e")
	if !strings.Contains(said, ".") {
		said = strings.TrimRight(said, "0")
	}
	return len(strings.TrimLeft(strings.ReplaceAll(said, ".", ""), "0"))
}

// P5.3: Same, where one of the five is another, and where all are alike.
func TestSame(t *testing.T) {
	for i, x := range all() {
		base := tally.Tally{3, 1, x, x, x}
		for k, y := range all() {
			want := i == k || x != x && y != y
			with := []tally.Tally{{3, 1, y, x, x}, {3, 1, x, y, x}, {3, 1, x, x, y}}
			for _, other := range with {
				if tally.Same(base, other) != want || tally.Same(other, base) != want {
					t.Errorf("Same(%v, %v): not %v", base, other, want)
				}
			}
		}
		for _, other := range []tally.Tally{{4, 1, x, x, x}, {2, 1, x, x, x}, {3, 0, x, x, x}, {3, 2, x, x, x}, {1, 3, x, x, x}, {4, 0, x, x, x}, {-3, -1, x, x, x}} {
			if tally.Same(base, other) || tally.Same(other, base) {
				t.Errorf("Same(%v, %v): true", base, other)
			}
		}
		if !tally.Same(base, base) {
			t.Errorf("Same(%v, itself): false", base)
		}
	}
	a, b := tally.Tally{3, 1, 1, 2, 3}, tally.Tally{3, 1, 2, 1, 3}
	if tally.Same(a, b) || tally.Same(a, tally.Tally{3, 1, 1, 3, 2}) || tally.Same(tally.Tally{}, tally.Of()) || !tally.Same(tally.Tally{}, tally.Tally{}) {
		t.Errorf("Same, of tallies that have each other's numbers, and of the zero one")
	}
	if tally.Same(tally.Of(), tally.Of(math.NaN())) || !tally.Same(tally.Of(math.Inf(1)), tally.Of(math.NaN())) {
		t.Errorf("Same, of tallies without plain numbers")
	}
}

// P5.4: Of tells the same in whatever row numbers are handed in, also where sums are rounded or become infinite.
func TestAnyRow(t *testing.T) {
	most, half := math.MaxFloat64, math.Ldexp(1, -53)
	for _, xs := range [][]float64{
		{3, minus, 0, math.NaN(), math.Inf(1)}, {most, most, -most, -most, 1}, {1, half, half, half, -1}, {1e16, 1, 1, -1e16, 1e16},
		{minus, 0, minus, 0, minus}, {0.1, 0.2, 0.3, 0.7, 1e-17}, nans()[:5],
	} {
		want := tally.Of(xs...)
		rounds(xs, func(row []float64) {
			if got := tally.Of(row...); !equal(got, want) || !tally.Same(got, want) {
				t.Errorf("Of(%v): %v, in another row %v", row, got, want)
			}
		})
	}
	for _, xs := range long() {
		want := tally.Of(xs...)
		slices.Reverse(xs)
		if got := tally.Of(xs...); !equal(got, want) {
			t.Errorf("Of(%v): %v, turned round %v", xs, got, want)
		}
		if got := tally.Of(tally.Sort(xs)...); !equal(got, want) {
			t.Errorf("Of(%v): %v, sorted %v", xs, want, got)
		}
	}
}

// P5.4: Least is not behind Greatest, if there is a plain one, else it is.
func TestLeastAndGreatest(t *testing.T) {
	for _, xs := range rows() {
		got := tally.Of(xs...)
		if plain := got.Odd < got.Many; plain != (tally.Compare(got.Least, got.Greatest) <= 0) {
			t.Errorf("Of(%v): %v", xs, got)
		}
	}
}

// P5.4: Mean of one number is that number, of -0 it is +0.
func TestMeanOfOne(t *testing.T) {
	for _, xs := range append(long(), rising()) {
		for _, x := range xs {
			want := x
			switch {
			case x == 0:
				want = 0
			case x-x != 0:
				want = math.NaN()
			}
			if got := tally.Of(x); !alike(got.Mean, want) {
				t.Errorf("Of(%v): %v", x, got)
			}
		}
	}
}

// P5.4: Sort tells as many, none ahead of the one ahead of it.
func TestSortedInOrder(t *testing.T) {
	for _, xs := range rows() {
		sorted := tally.Sort(xs)
		if len(sorted) != len(xs) {
			t.Errorf("Sort(%v): %d of %d", xs, len(sorted), len(xs))
		}
		for i := range sorted {
			if i > 0 && tally.Compare(sorted[i], sorted[i-1]) < 0 {
				t.Errorf("Sort(%v): %v at %d is ahead of the one ahead of it", xs, sorted[i], i)
			}
		}
	}
}

// P5.1 to P5.3: the chapter's examples, each row as it stands.
func TestExamples(t *testing.T) {
	inf, nan := math.Inf(1), math.NaN()
	if tally.Compare(nan, -inf) != -1 || tally.Compare(minus, 0) != -1 || tally.Compare(nan, nan) != 0 || tally.Compare(2, 1) != 1 {
		t.Errorf("Compare")
	}
	if got := tally.Of(3, minus, 0, nan, inf); !equal(got, tally.Tally{5, 2, minus, 3, 1}) {
		t.Errorf("Of(3, -0, 0, NaN, +Inf): %v", got)
	}
	if got := tally.Of(); !equal(got, tally.Tally{0, 0, inf, -inf, nan}) {
		t.Errorf("Of(): %v", got)
	}
	if got := tally.Of(nan); !equal(got, tally.Tally{1, 1, inf, -inf, nan}) {
		t.Errorf("Of(NaN): %v", got)
	}
	for _, c := range []struct {
		x    float64
		want string
	}{{0.1, "0.1"}, {minus, "-0"}, {1e300, "1e+300"}, {nan, "nan"}, {-inf, "-inf"}} {
		if got := tally.Text(c.x); got != c.want {
			t.Errorf("Text(%v): %q", c.x, got)
		}
	}
}
