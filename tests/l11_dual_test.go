package tests

import (
	"math"
	"slices"
	"testing"

	"loop.example/g03405/impl"
)

// Promise 2: a function is submodular exactly if all corners are bases; its minimum
// has a dual vector, and the minimizers are a lattice. Promise 8, its first part: a
// vector that is below a function stays below when its elements are raised.

// dualizable has grounded functions of every kind, among them submodular ones with
// each lattice of sets of up to four elements, and some of five, as minimizers.
func dualizable() []impl.Function {
	out := groundedFunctions()
	grounded := func(f impl.Function) {
		out = append(out, functionOf(f.Elements, func(s int) int { return f.Values[s] - f.Values[0] }))
	}
	for n := range 5 {
		for i, l := range familiesOf(n) {
			if len(l) == 0 || !isClosed(l) {
				continue
			}
			grounded(functionOfLattice(n, l))
			if n < 4 || i%5 > 0 {
				continue
			}
			// One more element, at the other end.
			moved := make([]int, len(l))
			for k, s := range l {
				moved[k] = 2*s + 1
			}
			grounded(functionOfLattice(5, moved))
			for _, s := range l {
				moved = append(moved, 2*s)
			}
			slices.Sort(moved)
			grounded(functionOfLattice(5, moved))
		}
	}
	for n := range 6 {
		for _, l := range graphs(n) {
			directed, _ := impl.DirectedCut(n, l)
			for _, w := range [][]int{{-1, -1, 4, 2, -3}, {-50, 3, -7, 1, 20}, {-2, 0, -2, -1, -3}} {
				out = append(out, functionOf(n, func(s int) int { return directed.Values[s] + weightIn(w, s) }))
			}
		}
	}
	return out
}

// raisedBy does not call the package, which it checks.
func raisedBy(f impl.Function, x []int, most []int) []int {
	out := slices.Clone(x)
	for e := range out {
		capacity := leastDifference(differences(f, out), e, -1)
		for out[e] < most[e] && capacity > 0 {
			step := min(capacity, most[e]-out[e])
			out[e], capacity = out[e]+step, capacity-step
		}
	}
	return out
}

func isBelowBy(f impl.Function, x []int) bool {
	return slices.Min(differences(f, x)) >= 0
}

// isDualBy does not call the package either.
func isDualBy(f impl.Function, x []int) bool {
	return isBelowBy(f, x) && !slices.ContainsFunc(x, isPositive) && sumOf(x) == slices.Min(f.Values)
}

func isPositive(v int) bool {
	return v > 0
}

func sumOf(x []int) int {
	return weightIn(x, 1<<len(x)-1)
}

func negativeSum(x []int) int {
	return sumOf(combined(x, x, func(a int, _ int) int { return min(a, 0) }))
}

// rankBy gives each set its value and the numbers of the other elements.
func rankBy(f impl.Function, w []int) int {
	least := math.MaxInt
	for s, v := range f.Values {
		least = min(least, v+weightIn(w, len(f.Values)-1-s))
	}
	return least
}

// mostsFor has numbers up to which a vector may be raised: all, none, and some of
// those of x less than these, the ends of the range among them.
func mostsFor(x []int) [][]int {
	n := len(x)
	shifted := func(by ...int) []int {
		return combined(x, by[:n], func(a int, b int) int { return max(-5000, min(a+b, 5000)) })
	}
	return [][]int{
		make([]int, n), slices.Repeat([]int{5000}, n), slices.Repeat([]int{-5000}, n), slices.Clone(x),
		[]int{5000, -5000, 5000, -5000, 5000}[:n], []int{-5000, 5000, 1, -1, 2}[:n], []int{3, -3, 0, 7, -40}[:n],
		shifted(1, 1, 1, 1, 1), shifted(-1, 1, -1, 1, -1), shifted(2, 0, 700, -700, 1), shifted(0, 3, -2, 5, 1), shifted(4999, 5000, 5001, 2, 0),
	}
}

// raisable goes through the submodular functions, each with the vectors near it that
// are below.
func raisable(yield func(f impl.Function, x []int) bool) {
	for _, f := range dualizable() {
		if !obeysLattice(f, 1) {
			continue
		}
		for _, x := range vectorsNear(f) {
			if isBelowBy(f, x) && !yield(f, x) {
				return
			}
		}
	}
}

func wantRaised(t *testing.T, f impl.Function, x []int, most []int, want []int) {
	t.Helper()
	if got, ok := impl.RaiseVector(f, x, most); !ok || !slices.Equal(got, want) {
		t.Errorf("RaiseVector(%v, %v, %v) = %v, %v, want %v", f, x, most, got, ok, want)
	}
}

func wantDual(t *testing.T, f impl.Function, want []int) {
	t.Helper()
	if got, ok := impl.DualVector(f); !ok || !slices.Equal(got, want) {
		t.Errorf("DualVector(%v) = %v, %v, want %v", f, got, ok, want)
	}
}

func wantIsDual(t *testing.T, f impl.Function, x []int, want bool) {
	t.Helper()
	if got := impl.IsDualVector(f, x); got != want {
		t.Errorf("IsDualVector(%v, %v) = %v", f, x, got)
	}
}

func wantNegative(t *testing.T, x []int, want int) {
	t.Helper()
	if got, ok := impl.NegativePart(x); !ok || got != want {
		t.Errorf("NegativePart(%v) = %d, %v, want %d", x, got, ok, want)
	}
}

func wantRank(t *testing.T, f impl.Function, w []int, want int) {
	t.Helper()
	if got, ok := impl.RankOfVector(f, w); !ok || got != want {
		t.Errorf("RankOfVector(%v, %v) = %d, %v, want %d", f, w, got, ok, want)
	}
}

func TestRaiseVector(t *testing.T) {
	f, g := function(2, 0, 2, 2, 3), function(3, 0, 4, 3, 6, 5, 7, 6, 7)
	cases := []struct {
		f             impl.Function
		x, most, want []int
	}{
		{f, []int{0, 0}, []int{5, 5}, []int{2, 1}}, {f, []int{1, 0}, []int{0, 1}, []int{1, 1}}, {f, []int{0, 0}, []int{1, 5}, []int{1, 2}}, {f, []int{0, 0}, []int{0, 0}, []int{0, 0}}, {f, []int{0, 0}, []int{-1, -5000}, []int{0, 0}}, {f, []int{1, 2}, []int{5000, 5000}, []int{1, 2}},
		{f, []int{-5000, 2}, []int{5000, 5000}, []int{1, 2}}, {f, []int{-5000, -5000}, []int{5000, 5000}, []int{2, 1}}, {f, []int{-5000, -5000}, []int{-4999, -5000}, []int{-4999, -5000}}, {f, []int{2, -7}, []int{1, -3}, []int{2, -3}},
		// The element 0 gets more while the others have less than they will get.
		{g, []int{0, 0, 0}, []int{9, 9, 9}, []int{4, 2, 1}}, {g, []int{0, 0, 0}, []int{2, 9, 9}, []int{2, 3, 2}}, {g, []int{0, 0, 4}, []int{9, 9, 9}, []int{3, 0, 4}}, {g, []int{0, 2, 0}, []int{9, 0, 9}, []int{4, 2, 1}},
		{function(0, 0), nil, nil, nil}, {function(0, 0), []int{}, []int{}, nil}, {function(1, 0, -7), []int{-9}, []int{0}, []int{-7}}, {function(1, 0, -7), []int{-9}, []int{-8}, []int{-8}}, {function(1, 0, 1000), []int{-5000}, []int{5000}, []int{1000}}, {function(1, 0, -1000), []int{-5000}, []int{-1001}, []int{-1001}},
		{function(2, 0, 1000, 1000, -1000), []int{-5000, -5000}, []int{5000, 5000}, []int{1000, -2000}}, {function(2, 0, 1000, 1000, -1000), []int{-5000, -5000}, []int{0, 0}, []int{0, -1000}},
	}
	for _, c := range cases {
		wantRaised(t, c.f, c.x, c.most, c.want)
	}
	count := 0
	for f, x := range raisable {
		for _, most := range mostsFor(x) {
			// Another one for each vector.
			count++
			if f.Elements < 3 || count%11 == 0 {
				wantRaised(t, f, x, most, raisedBy(f, x, most))
			}
		}
	}
}

// A raised vector is below its function, none of its numbers is less than before
// or greater than asked for, and none that is less than this can be greater.
func TestRaisedVectorsStayBelow(t *testing.T) {
	count, whole, partly, not, above := 0, 0, 0, 0, 0
	for f, x := range raisable {
		for _, most := range mostsFor(x) {
			count++
			if f.Elements > 2 && count%7 > 0 {
				continue
			}
			got, ok := impl.RaiseVector(f, x, most)
			if !ok || len(got) != len(x) || !isBelowBy(f, got) || !impl.IsBelow(f, got) {
				t.Fatalf("RaiseVector(%v, %v, %v) = %v, %v is not below", f, x, most, got, ok)
			}
			for e, v := range got {
				if v < x[e] || v > max(x[e], most[e]) {
					t.Errorf("RaiseVector(%v, %v, %v) = %v: %d is at %d", f, x, most, got, e, v)
				}
				if v < most[e] && (isBelowBy(f, raised(got, e, 1)) || impl.IsBelow(f, raised(got, e, 1))) {
					t.Errorf("RaiseVector(%v, %v, %v) = %v: %d can be greater", f, x, most, got, e)
				}
				switch {
				case x[e] > most[e]:
					above++
				case x[e] < v && v == most[e]:
					whole++
				case x[e] < v:
					partly++
				case v < most[e]:
					not++
				}
			}
			// Nothing is left to be raised.
			wantRaised(t, f, got, most, got)
		}
	}
	if min(whole, partly, not, above) < 10000 {
		t.Errorf("only %d numbers are raised to the most, %d less far and %d not, and %d are above it", whole, partly, not, above)
	}
}

// Of all vectors below the function whose numbers are between those of x and the
// most, the raised one comes last in lexicographic order.
func TestRaisedVectorIsLast(t *testing.T) {
	count, several := 0, 0
	for f, x := range raisable {
		count++
		if f.Elements > 3 || f.Elements == 3 && count%5 > 0 {
			continue
		}
		by := [][]int{{3, 3, 3}, {1, 4, 2}, {-1, 2, 4}, {4, -1, 3}}[count%4][:f.Elements]
		last, below := slices.Clone(x), 0
		for _, steps := range indexLists(f.Elements, 5) {
			tooFar := slices.ContainsFunc(combined(steps, by, func(a int, b int) int { return a - max(b, 0) }), isPositive)
			y := combined(x, steps, plus)
			if tooFar || !isBelowBy(f, y) {
				continue
			}
			below++
			if slices.Compare(y, last) > 0 {
				last = y
			}
		}
		wantRaised(t, f, x, combined(x, by, func(a int, b int) int { return max(a+b, -5000) }), last)
		if below > 1 {
			several++
		}
	}
	if several < 1000 {
		t.Errorf("only %d vectors can be raised", several)
	}
}

// The numbers in the order of their elements get what is left, up to a base where
// the most is enough: from low numbers it is the corner of this order.
func TestRaisedToBases(t *testing.T) {
	for _, f := range dualizable() {
		if !obeysLattice(f, 1) {
			continue
		}
		n := f.Elements
		enough := slices.Repeat([]int{5000}, n)
		ascending := orderBy(make([]int, n))
		for _, low := range []int{-5000, -2001, -2000} {
			wantRaised(t, f, slices.Repeat([]int{low}, n), enough, cornerAlong(f, ascending))
		}
	}
	for f, x := range raisable {
		enough := slices.Repeat([]int{5000}, f.Elements)
		if got, ok := impl.RaiseVector(f, x, enough); !ok || !isBaseOf(f, got) || !impl.IsBase(f, got) {
			t.Errorf("RaiseVector(%v, %v, %v) = %v, %v is no base", f, x, enough, got, ok)
		}
	}
}

// From wherever a vector is raised, its sum in the end is the rank of the most, and
// no vector that is below both has a greater one.
func TestRaisedSumsAreRanks(t *testing.T) {
	raises, less := 0, 0
	for i, f := range dualizable() {
		if !obeysLattice(f, 1) {
			continue
		}
		near := slices.DeleteFunc(vectorsNear(f), func(x []int) bool { return !isBelowBy(f, x) })
		for k, w := range vectorsOf(f.Elements) {
			if f.Elements > 2 && (i+k)%4 > 0 {
				continue
			}
			rank, ok := impl.RankOfVector(f, w)
			low := slices.Repeat([]int{-5000}, f.Elements)
			if got, raises := impl.RaiseVector(f, low, w); !ok || !raises || sumOf(got) != rank {
				t.Fatalf("RankOfVector(%v, %v) = %d, %v, but RaiseVector has %v, %v", f, w, rank, ok, got, raises)
			}
			for _, x := range near {
				if slices.ContainsFunc(combined(x, w, func(a int, b int) int { return a - b }), isPositive) {
					continue
				}
				got, ok := impl.RaiseVector(f, x, w)
				if !ok || sumOf(got) != rank || sumOf(x) > rank {
					t.Errorf("RankOfVector(%v, %v) = %d, but RaiseVector has %v, %v from %v", f, w, rank, got, ok, x)
				}
				raises++
				if sumOf(x) < rank {
					less++
				}
			}
		}
	}
	if raises < 10000 || less < 10000 {
		t.Errorf("only %d vectors are below both, and %d of them have less than the rank", raises, less)
	}
}

func TestDualVector(t *testing.T) {
	cases := []struct {
		f    impl.Function
		want []int
	}{
		{function(0, 0), nil}, {function(1, 0, -7), []int{-7}}, {function(1, 0, 7), []int{0}}, {function(1, 0, -1000), []int{-1000}}, {function(1, 0, 1000), []int{0}},
		{function(2, 0, -2, 1, -2), []int{-2, 0}}, {function(2, 0, 1, -2, -2), []int{0, -2}}, {function(2, 0, 1, 1, 1), []int{0, 0}}, {function(2, 0, -1000, 0, -1000), []int{-1000, 0}}, {function(2, 0, -500, -500, -1000), []int{-500, -500}}, {function(2, 0, -999, -1, -1000), []int{-999, -1}},
		// The element 0 is raised first, so that less is left for the others.
		{function(2, 0, 0, 0, -1), []int{0, -1}}, {function(2, 0, 1000, 1000, -1000), []int{0, -1000}}, {function(2, 0, -1, 5, -4), []int{-1, -3}}, {function(3, 0, 0, 0, 0, 0, 0, 0, -6), []int{0, 0, -6}}, {function(3, 0, 0, 0, -2, 0, -1, 0, -5), []int{0, -2, -3}},
		{functionOf(5, func(s int) int { return -200 * len(elementsIn(s)) }), []int{-200, -200, -200, -200, -200}}, {functionOf(5, func(s int) int { return -15 * (s / 31) }), []int{0, 0, 0, 0, -15}},
	}
	for _, c := range cases {
		wantDual(t, c.f, c.want)
		wantIsDual(t, c.f, c.want, true)
	}
	for _, f := range dualizable() {
		if !obeysLattice(f, 1) {
			failsToDual(t, f)
			continue
		}
		low := slices.Repeat([]int{-2000}, f.Elements)
		want := raisedBy(f, low, make([]int, f.Elements))
		wantDual(t, f, want)
		wantRaised(t, f, low, make([]int, f.Elements), want)
	}
}

// The minimum of a submodular function has a dual vector. Its negative part is the
// minimum, its negative numbers are those of elements of all minimizers, and a base
// to which it is raised keeps the negative part.
func TestMinimumHasDualVector(t *testing.T) {
	below, zero, sizes := 0, 0, map[int]int{}
	for _, f := range dualizable() {
		if !obeysLattice(f, 1) {
			continue
		}
		minimum := slices.Min(f.Values)
		x, ok := impl.DualVector(f)
		if !ok || !isDualBy(f, x) || !impl.IsDualVector(f, x) {
			t.Fatalf("DualVector(%v) = %v, %v is no dual vector", f, x, ok)
		}
		if got, ok := impl.MinimumOf(f); !ok || got != minimum {
			t.Errorf("MinimumOf(%v) = %d, %v", f, got, ok)
		}
		wantNegative(t, x, minimum)
		wantRank(t, f, make([]int, f.Elements), minimum)
		for _, s := range minimizersBy(f) {
			if weightIn(x, s) != minimum || weightIn(x, len(f.Values)-1-s) != 0 {
				t.Errorf("DualVector(%v) = %v has other negative numbers than those of %d", f, x, s)
			}
		}
		base, ok := impl.RaiseVector(f, x, slices.Repeat([]int{5000}, f.Elements))
		if !ok || !impl.IsBase(f, base) {
			t.Errorf("RaiseVector(%v, %v) = %v, %v is no base", f, x, base, ok)
		}
		wantNegative(t, base, minimum)
		if minimum == 0 {
			zero++
		} else {
			below++
			sizes[f.Elements]++
		}
	}
	if below < 1000 || zero < 500 || sizes[4] < 300 || sizes[5] < 300 {
		t.Errorf("only %d minima are below 0, %d are 0: %v", below, zero, sizes)
	}
}

// No vector that is below a function has a negative part above the minimum, be the
// function submodular or not, and the greatest one of bases is the minimum if it is.
func TestNegativePartsAreAtMostTheMinimum(t *testing.T) {
	reached, less := 0, 0
	for i, f := range dualizable() {
		minimum, ok := impl.MinimumOf(f)
		if !ok {
			t.Fatalf("MinimumOf(%v) fails", f)
		}
		if !obeysLattice(f, 1) && i%4 > 0 {
			continue
		}
		for _, x := range vectorsNear(f) {
			if !impl.IsBelow(f, x) {
				continue
			}
			got, ok := impl.NegativePart(x)
			if !ok || got > minimum {
				t.Errorf("NegativePart(%v) = %d, %v, but the minimum of %v is %d", x, got, ok, f, minimum)
			}
			if got == minimum {
				reached++
			} else {
				less++
			}
		}
		if bases, whole := allBasesOf(f); whole {
			most := math.MinInt
			for _, x := range bases {
				got, _ := impl.NegativePart(x)
				most = max(most, got)
			}
			if most != minimum {
				t.Errorf("%v: the negative parts of bases are at most %d, but the minimum is %d", f, most, minimum)
			}
		}
	}
	if reached < 10000 || less < 10000 {
		t.Errorf("only %d vectors reach the minimum, and %d do not", reached, less)
	}
}

// allBasesOf fails for functions that are not submodular too.
func allBasesOf(f impl.Function) ([][]int, bool) {
	if !obeysLattice(f, 1) {
		return nil, false
	}
	return allBases(f)
}

// All parts of the promise tell the same functions from the others: a function that
// is not submodular has a corner that is no base, and gets no dual vector.
func TestSubmodularHasCornersAndDual(t *testing.T) {
	submodular, others := 0, 0
	for _, f := range dualizable() {
		var noBases [][]int
		for _, order := range orders(f.Elements) {
			if x, ok := impl.CornerOf(f, order); !ok || !impl.IsBase(f, x) {
				noBases = append(noBases, x)
			}
		}
		want := impl.IsSubmodular(f)
		x, ok := impl.DualVector(f)
		if want != (len(noBases) == 0) || want != ok {
			t.Errorf("IsSubmodular(%v) = %v, but its corners %v are no bases, and DualVector is %v, %v", f, want, noBases, x, ok)
		}
		if !want {
			others++
			failsToDual(t, f)
			// The sum of all is as it must be, so some set has too little.
			for _, y := range noBases {
				if sumOf(y) != f.Values[len(f.Values)-1] || isBelowBy(f, y) {
					t.Errorf("%v: %v is a corner but no base", f, y)
				}
			}
			continue
		}
		submodular++
		sets, found := impl.MinimizersOf(f)
		if !found || !impl.IsLattice(sets) || !isClosed(sets) {
			t.Errorf("MinimizersOf(%v) = %v, %v are no lattice", f, sets, found)
		}
		least, _ := impl.LeastMinimizer(f)
		greatest, _ := impl.GreatestMinimizer(f)
		for _, s := range []int{least, greatest} {
			if weightIn(x, s) != f.Values[s] || f.Values[s] != sumOf(x) {
				t.Errorf("DualVector(%v) = %v, but %d is a minimizer", f, x, s)
			}
		}
	}
	if submodular < 1000 || others < 1000 {
		t.Errorf("only %d functions are submodular, and %d are not", submodular, others)
	}
}

func TestMinimumOfZero(t *testing.T) {
	zero, below, other := 0, 0, 0
	for _, f := range dualizable() {
		none := make([]int, f.Elements)
		minimum := slices.Min(f.Values)
		wantIsDual(t, f, none, minimum == 0)
		wantRank(t, f, none, minimum)
		if minimum < 0 {
			below++
			continue
		}
		for e := range none {
			wantIsDual(t, f, raised(none, e, -1), false)
			wantIsDual(t, f, raised(none, e, 1), false)
			wantIsDual(t, f, raised(raised(none, e, 1), (e+1)%f.Elements, -1), f.Elements == 1)
			wantIsDual(t, f, raised(none, e, -5000), false)
		}
		if !obeysLattice(f, 1) {
			other++
			failsToDual(t, f)
			continue
		}
		zero++
		wantDual(t, f, none)
		wantRaised(t, f, none, none, none)
		wantRaised(t, f, slices.Repeat([]int{-5000}, f.Elements), none, none)
	}
	if zero < 500 || below < 1000 || other < 300 {
		t.Errorf("only %d submodular functions with a minimum of 0, %d others, and %d with a lesser one", zero, other, below)
	}
	for n := range 6 {
		none := make([]int, n)
		wantNegative(t, none, 0)
		wantNegative(t, slices.Repeat([]int{5000}, n), 0)
		wantDual(t, functionOf(n, func(int) int { return 0 }), none)
		wantDual(t, functionOf(n, func(s int) int { return 200 * len(elementsIn(s)) }), none)
		// Below 0 by one, only for the set of all elements.
		if n > 0 {
			wantDual(t, functionOf(n, func(s int) int { return -(s / (1<<n - 1)) }), raised(none, n-1, -1))
		}
	}
}

func TestIsDualVector(t *testing.T) {
	f, g := function(2, 0, -2, 1, -2), function(2, 0, 3, 3, -4)
	cases := []struct {
		f    impl.Function
		x    []int
		want bool
	}{
		{function(0, 0), nil, true}, {function(0, 0), []int{}, true}, {function(1, 0, -7), []int{-7}, true}, {function(1, 0, -7), []int{-8}, false}, {function(1, 0, -7), []int{-6}, false}, {function(1, 0, -7), []int{0}, false}, {function(1, 0, 7), []int{0}, true}, {function(1, 0, 7), []int{-1}, false}, {function(1, 0, 7), []int{7}, false},
		{f, []int{-2, 0}, true}, {f, []int{-3, 1}, false}, {f, []int{-3, 0}, false}, {f, []int{-2, -1}, false}, {f, []int{-1, -1}, false}, {f, []int{0, -2}, false}, {f, []int{-2, 1}, false}, {f, []int{-2}, false}, {f, []int{-2, 0, 0}, false}, {f, nil, false},
		// Many dual vectors, and bases with positive numbers of the same sum.
		{g, []int{0, -4}, true}, {g, []int{-1, -3}, true}, {g, []int{-2, -2}, true}, {g, []int{-4, 0}, true}, {g, []int{1, -5}, false}, {g, []int{-7, 3}, false}, {g, []int{-5000, 0}, false}, {g, []int{0, -5}, false}, {g, []int{0, -3}, false},
		// The function need not be submodular.
		{function(2, 0, 0, 0, 1), []int{0, 0}, true}, {function(2, 0, -1, -1, 0), []int{-1, 0}, false}, {function(2, 0, -1, -1, 0), []int{-1, -1}, false}, {function(2, 0, -1, -1, -1), []int{-1, -1}, false}, {function(2, 0, -3, 0, 5), []int{-3, 0}, true},
	}
	for _, c := range cases {
		wantIsDual(t, c.f, c.x, c.want)
	}
	duals, positive, others := 0, 0, 0
	for i, f := range dualizable() {
		near := vectorsNear(f)
		if x, ok := impl.DualVector(f); ok {
			near = append(near, x)
			for e := range x {
				near = append(near, raised(x, e, -1), raised(x, e, 1), raised(raised(x, e, -1), (e+1)%len(x), 1), raised(raised(x, e, 1), (e+1)%len(x), -1))
			}
		} else if i%4 > 0 {
			continue
		}
		for _, x := range near {
			dual := isDualBy(f, x)
			wantIsDual(t, f, x, dual)
			switch {
			case dual:
				duals++
			case isBelowBy(f, x) && sumOf(x) == slices.Min(f.Values):
				positive++
			case isBelowBy(f, x):
				others++
			}
		}
	}
	if duals < 1000 || positive < 1000 || others < 10000 {
		t.Errorf("only %d dual vectors, %d others with the same sum, and %d others", duals, positive, others)
	}
}

// Every vector without positive numbers down to the minimum: the dual ones are those
// with the sum, and DualVector has the last one in lexicographic order.
func TestAllDualVectors(t *testing.T) {
	several, none := 0, 0
	for i, f := range dualizable() {
		minimum := slices.Min(f.Values)
		if minimum < -3 || f.Elements > 3 && i%5 > 0 {
			continue
		}
		var duals [][]int
		for _, x := range indexLists(f.Elements, 1-minimum) {
			x = negatives(x)
			want := isBelowBy(f, x) && sumOf(x) == minimum
			wantIsDual(t, f, x, want)
			if want {
				duals = append(duals, x)
			}
		}
		if obeysLattice(f, 1) {
			wantDual(t, f, slices.MaxFunc(append(duals, slices.Repeat([]int{-9}, f.Elements)), slices.Compare))
			if len(duals) > 1 {
				several++
			}
		} else if len(duals) == 0 {
			none++
		}
	}
	if several < 50 || none < 100 {
		t.Errorf("only %d submodular functions have more than one dual vector, and %d others have none", several, none)
	}
}

func TestNegativePart(t *testing.T) {
	cases := []struct {
		x    []int
		want int
	}{
		{nil, 0}, {[]int{}, 0}, {[]int{0}, 0}, {[]int{7}, 0}, {[]int{-7}, -7}, {[]int{-2, 3, -1}, -3}, {[]int{5000, 5000}, 0}, {[]int{-5000, 5000}, -5000}, {[]int{5000, -1}, -1}, {[]int{-5000, -5000, -5000, -5000, -5000}, -25000}, {[]int{5000, 5000, 5000, 5000, 5000}, 0}, {[]int{0, -1, 0, -1, 1}, -2}, {[]int{-1001, 1001, -4999}, -6000},
	}
	for _, c := range cases {
		wantNegative(t, c.x, c.want)
	}
	for n := range 6 {
		for _, x := range slices.Concat(vectorsOf(n), indexLists(n, 4)) {
			for _, by := range []int{0, -2, 3, -4000, 4000} {
				y := combined(x, x, func(a int, _ int) int { return a + by })
				wantNegative(t, y, negativeSum(y))
				wantNegative(t, negatives(y), negativeSum(y)-sumOf(y))
			}
		}
	}
}

func TestRankOfVector(t *testing.T) {
	f := function(2, 0, 2, 2, 3)
	cases := []struct {
		f    impl.Function
		w    []int
		want int
	}{
		{f, []int{1, 5}, 3}, {f, []int{5, 5}, 3}, {f, []int{5, 1}, 3}, {f, []int{1, 1}, 2}, {f, []int{0, 9}, 2}, {f, []int{-4, 9}, -2}, {f, []int{1000, 1000}, 3}, {f, []int{-1000, -1000}, -2000}, {f, []int{1000, -1000}, -998}, {f, []int{0, 0}, 0},
		{function(0, 0), nil, 0}, {function(0, 7), []int{}, 7}, {function(0, -1000), nil, -1000}, {function(1, 0, 4), []int{3}, 3}, {function(1, 0, 4), []int{5}, 4}, {function(1, 9, 4), []int{-6}, 3}, {function(1, 9, 4), []int{-5}, 4}, {function(1, 1000, 1000), []int{1000}, 1000}, {function(1, -1000, 1000), []int{-1000}, -2000},
		// Functions that are not submodular, and the sums are not in the range of values.
		{function(2, 0, 0, 0, 1), []int{1, 1}, 1}, {function(2, 5, 1, 2, 9), []int{4, 2}, 3}, {functionOf(5, func(int) int { return -1000 }), []int{-1000, -1000, -1000, -1000, -1000}, -6000}, {functionOf(5, func(int) int { return 1000 }), []int{1000, 1000, 1000, 1000, 1000}, 1000},
		// The elements that are not in the set of two count, not those in it.
		{function(3, 9, 9, 9, 1, 9, 9, 9, 9), []int{-100, -100, 5}, -191}, {function(3, 9, 9, 9, 1, 9, 9, 9, 9), []int{100, 100, 5}, 6}, {function(3, 9, 9, 9, 9, 9, 1, 9, 9), []int{100, 5, 100}, 6},
	}
	for _, c := range cases {
		wantRank(t, c.f, c.w, c.want)
	}
	for i, f := range minimizable() {
		n := f.Elements
		wantRank(t, f, make([]int, n), slices.Min(f.Values))
		for k, w := range append(vectorsOf(n), slices.Repeat([]int{1000}, n), slices.Repeat([]int{-1000}, n), []int{-1000, 999, 1000, -999, 0}[:n]) {
			if n > 2 && (i+k)%5 > 0 {
				continue
			}
			rank := rankBy(f, w)
			wantRank(t, f, w, rank)
			// A number that is greater by one makes the rank greater by one, or not.
			for e := range n {
				if w[e] == 1000 {
					continue
				}
				if got, ok := impl.RankOfVector(f, raised(w, e, 1)); !ok || got < rank || got > rank+1 {
					t.Errorf("RankOfVector(%v, %v) = %d, but %d, %v with one more for %d", f, w, rank, got, ok, e)
				}
			}
		}
	}
}

func failsToDual(t *testing.T, f impl.Function) {
	t.Helper()
	if got, ok := impl.DualVector(f); ok || len(got) != 0 {
		t.Errorf("DualVector(%v) = %v, %v", f, got, ok)
	}
}

func failsToRaiseVector(t *testing.T, f impl.Function, x []int, most []int) {
	t.Helper()
	if got, ok := impl.RaiseVector(f, x, most); ok || len(got) != 0 {
		t.Errorf("RaiseVector(%v, %v, %v) = %v, %v", f, x, most, got, ok)
	}
}

func failsToRank(t *testing.T, f impl.Function, w []int) {
	t.Helper()
	if got, ok := impl.RankOfVector(f, w); ok || got != 0 {
		t.Errorf("RankOfVector(%v, %v) = %d, %v", f, w, got, ok)
	}
}

func TestDualUngrounded(t *testing.T) {
	for _, f := range ungrounded() {
		failsToDual(t, f)
		for n := range 7 {
			for _, x := range [][]int{make([]int, n), slices.Repeat([]int{-1}, n), slices.Repeat([]int{-2000}, n), slices.Repeat([]int{-5000}, n)} {
				wantIsDual(t, f, x, false)
				failsToRaiseVector(t, f, x, make([]int, n))
				failsToRaiseVector(t, f, x, slices.Repeat([]int{5000}, n))
			}
			// Where the sum is the minimum, or what a grounded function would have.
			if n == f.Elements && n > 0 && len(f.Values) > 0 {
				least := slices.Min(f.Values)
				for e := range n {
					wantIsDual(t, f, raised(make([]int, n), e, least), false)
					wantIsDual(t, f, raised(make([]int, n), e, least-f.Values[0]), false)
				}
			}
		}
	}
	// What IsSubmodular accepts, with a value of the empty set that is not 0.
	for _, f := range dualizable() {
		for _, v := range []int{-1, 1, 5, -300} {
			if !obeysLattice(f, 1) || slices.Max(f.Values)+v > 1000 || slices.Min(f.Values)+v < -1000 {
				continue
			}
			g := functionOf(f.Elements, func(s int) int { return f.Values[s] + v })
			low := slices.Repeat([]int{-2000}, f.Elements)
			failsToDual(t, g)
			failsToRaiseVector(t, g, low, make([]int, f.Elements))
			wantIsDual(t, g, cornerAlong(f, orderBy(low)), false)
			wantRank(t, g, make([]int, f.Elements), slices.Min(g.Values))
		}
	}
}

func TestRaiseNotSubmodular(t *testing.T) {
	failsToRaiseVector(t, function(2, 0, 0, 0, 1), []int{0, 0}, []int{1, 1})
	failsToRaiseVector(t, function(2, 0, 0, 0, 1), []int{0, 0}, []int{0, 0})
	failsToDual(t, function(2, 0, 0, 0, 1))
	count := 0
	for i, f := range dualizable() {
		if obeysLattice(f, 1) || i%4 > 0 {
			continue
		}
		failsToDual(t, f)
		for k, x := range vectorsNear(f) {
			if isBelowBy(f, x) {
				count++
				mosts := mostsFor(x)
				failsToRaiseVector(t, f, x, mosts[k%len(mosts)])
			}
		}
	}
	if count < 1000 {
		t.Errorf("only %d vectors are below functions that are not submodular", count)
	}
}

func TestRaiseNotBelow(t *testing.T) {
	failsToRaiseVector(t, function(2, 0, 2, 2, 3), []int{3, 0}, []int{5, 5})
	failsToRaiseVector(t, function(2, 0, 2, 2, 3), []int{2, 2}, []int{0, 0})
	failsToRaiseVector(t, function(2, 0, 2, 2, 3), []int{3, -5000}, []int{0, 0})
	count := 0
	for _, f := range dualizable() {
		if !obeysLattice(f, 1) {
			continue
		}
		for k, x := range vectorsNear(f) {
			if !isBelowBy(f, x) {
				count++
				mosts := mostsFor(x)
				failsToRaiseVector(t, f, x, mosts[k%len(mosts)])
				wantIsDual(t, f, x, false)
			}
		}
	}
	if count < 1000 {
		t.Errorf("only %d vectors are not below", count)
	}
}

// outside has numbers that are in no vector of bases.
func outside() []int {
	return []int{-5001, -5002, 5001, 5002, -10000, 10000, 1 << 32, -1 << 32, -1<<32 - 1, 1 << 62, -1 << 62, math.MaxInt, math.MinInt, math.MinInt + 1}
}

func TestDualNoVectors(t *testing.T) {
	for n := range 6 {
		for _, f := range []impl.Function{
			functionOf(n, func(int) int { return 0 }),
			functionOf(n, func(s int) int { return 200 * len(elementsIn(s)) }),
			functionOf(n, func(s int) int { return -200 * len(elementsIn(s)) }),
		} {
			var dual []int
			low := slices.Repeat([]int{-2000}, n)
			for e := range n {
				dual = append(dual, min(f.Values[1<<e], 0))
			}
			wantDual(t, f, dual)
			for _, length := range []int{0, 1, 2, 3, 4, 5, 6, 7, 62, 63, 64, 65, 5000} {
				if length == n {
					continue
				}
				for _, v := range []int{0, -200, -2000, -5000} {
					other := slices.Repeat([]int{v}, length)
					wantIsDual(t, f, other, false)
					failsToRaiseVector(t, f, other, make([]int, n))
					failsToRaiseVector(t, f, low, other)
					failsToRaiseVector(t, f, other, other)
				}
				wantIsDual(t, f, append(slices.Clone(dual), make([]int, length)...), length == 0)
			}
			for i := range n {
				for _, v := range outside() {
					x := slices.Clone(dual)
					x[i] = v
					wantIsDual(t, f, x, false)
					failsToRaiseVector(t, f, x, dual)
					failsToRaiseVector(t, f, dual, x)
					failsToRaiseVector(t, f, low, x)
					failsToRaiseVector(t, f, x, x)
					failsToRaiseVector(t, f, low, slices.Repeat([]int{v}, n))
					failsToRaiseVector(t, f, slices.Repeat([]int{v}, n), dual)
					// The sum is the minimum, though with wraparound.
					x[(i+1)%n] += dual[i] - v
					if n > 1 {
						wantIsDual(t, f, x, false)
					}
				}
				for _, v := range []int{-5000, 5000, -4999, 4999} {
					most := slices.Clone(dual)
					most[i] = v
					wantRaised(t, f, low, most, raisedBy(f, low, most))
				}
			}
		}
	}
}

func TestNegativePartInvalid(t *testing.T) {
	fails := func(x []int) {
		t.Helper()
		if got, ok := impl.NegativePart(x); ok || got != 0 {
			t.Errorf("NegativePart(%v) = %d, %v", x, got, ok)
		}
	}
	for _, x := range noLengths() {
		fails(x)
		for _, v := range []int{-1, 1, -5000, 5000} {
			fails(slices.Repeat([]int{v}, len(x)))
		}
		x[0] = -7
		fails(x)
	}
	for n := 1; n <= 7; n++ {
		for i := range n {
			for _, v := range outside() {
				for _, other := range []int{0, -3, 3, -5000, 5000} {
					x := slices.Repeat([]int{other}, n)
					x[i] = v
					fails(x)
				}
				fails(slices.Repeat([]int{v}, n))
			}
			for _, v := range []int{-5000, 5000} {
				x := make([]int, n)
				x[i] = v
				if n <= 5 {
					wantNegative(t, x, min(v, 0))
				} else {
					fails(x)
				}
			}
		}
	}
}

func TestRankOfVectorInvalid(t *testing.T) {
	for _, f := range append(noFunctions(),
		function(0, 2000), function(1, 0, -1001), function(1, 0, 1, 1, 1), function(2, 0, 1, 1), function(2, 0, 1, 1, 1001), function(2, 0, 0, 0, math.MinInt), function(3, 0, 1), function(-2, 5, 5, 5, 5),
		functionOf(5, func(s int) int { return 990 + s }), functionOf(5, func(s int) int { return -970 - s }), functionOf(6, func(s int) int { return -s }),
	) {
		for n := range 8 {
			failsToRank(t, f, make([]int, n))
			failsToRank(t, f, slices.Repeat([]int{-1000}, n))
			failsToRank(t, f, slices.Repeat([]int{1000}, n))
		}
	}
	for n := range 6 {
		for _, f := range []impl.Function{
			functionOf(n, func(int) int { return 0 }),
			functionOf(n, func(s int) int { return 3 - len(elementsIn(s)) }),
			functionOf(n, func(s int) int { return s * s % 7 }),
		} {
			for _, length := range []int{0, 1, 2, 3, 4, 5, 6, 7, 62, 63, 64, 65, 5000} {
				if length != n {
					failsToRank(t, f, make([]int, length))
					failsToRank(t, f, slices.Repeat([]int{-4}, length))
				}
			}
			for _, w := range noVectors(n) {
				failsToRank(t, f, w)
				failsToRank(t, f, negatives(w))
			}
			for _, v := range append(outside(), 1001, -1001, 5000, -5000) {
				for i := range n {
					failsToRank(t, f, raised(make([]int, n), i, v))
				}
				if n > 0 {
					failsToRank(t, f, slices.Repeat([]int{v}, n))
				}
			}
		}
	}
}

// The values after the length are unused capacity, which stays as it was too.
func TestDualMemory(t *testing.T) {
	for n := range 6 {
		for _, value := range []func(s int) int{
			func(s int) int { return len(elementsIn(s)) * (9 - len(elementsIn(s))) },
			func(s int) int { return len(elementsIn(s)) * (2 - len(elementsIn(s))) },
			func(s int) int { return 3*(s%2) - s },
		} {
			f, sameF := spare(functionOf(n, value))
			for _, numbers := range [][]int{{-300, -300, -300, -300, -300}, cornerAlong(f, orderBy(make([]int, n)))} {
				x, sameX := spare(function(0, numbers[:n]...))
				dual, sameDual := spare(function(0, raisedBy(f, slices.Repeat([]int{-2000}, n), make([]int, n))...))
				calls := map[string]func() ([]int, bool){
					"DualVector":   func() ([]int, bool) { return impl.DualVector(f) },
					"IsDualVector": func() ([]int, bool) { return nil, impl.IsDualVector(f, dual.Values) },
					"NegativePart": func() ([]int, bool) { sum, ok := impl.NegativePart(x.Values); return []int{sum}, ok },
					"RankOfVector": func() ([]int, bool) { rank, ok := impl.RankOfVector(f, x.Values); return []int{rank}, ok },
				}
				for _, most := range mostsFor(x.Values) {
					most, sameMost := spare(function(0, most...))
					calls["RaiseVector"] = func() ([]int, bool) { return impl.RaiseVector(f, x.Values, most.Values) }
					calls["RaiseVector of itself"] = func() ([]int, bool) { return impl.RaiseVector(f, x.Values, x.Values) }
					keepMemory(t, calls, sameF, sameX, sameDual, sameMost)
				}
			}
		}
	}
}
