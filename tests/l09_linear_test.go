package tests

import (
	"cmp"
	"math"
	"slices"
	"testing"

	"loop.example/g03405/impl"
)

// Promise 7: extensions are the greatest pairings with bases, and convex.

// groundedSubmodular has those functions for which chapter 9 does not fail, and one
// more of five elements with few enough bases for allBases: a cycle's cuts, and
// weights.
func groundedSubmodular() []impl.Function {
	cycle := functionOf(5, func(s int) int {
		return len(elementsIn(s^(s<<1&31+s>>4))) + weightIn([]int{1, -2, 0, 3, -1}, s)
	})
	return slices.DeleteFunc(append(groundedFunctions(), cycle), func(f impl.Function) bool { return !obeysLattice(f, 1) })
}

// orderBy does not call the package, which it checks.
func orderBy(w []int) []int {
	order := make([]int, len(w))
	for i := range order {
		order[i] = i
	}
	slices.SortFunc(order, func(i int, k int) int { return cmp.Or(cmp.Compare(w[k], w[i]), cmp.Compare(i, k)) })
	return order
}

// levelsBy goes through all numbers that a vector may have, not through its order.
func levelsBy(w []int) []int {
	var levels []int
	for number := 1000; number >= -1000; number-- {
		if !slices.Contains(w, number) {
			continue
		}
		level := 0
		for i, v := range w {
			if v >= number {
				level += 1 << i
			}
		}
		levels = append(levels, level)
	}
	return levels
}

func negatives(w []int) []int {
	return combined(w, w, func(a int, _ int) int { return -a })
}

// allBases has every base of a submodular function, or fails if there are too
// many vectors to look through.
func allBases(f impl.Function) ([][]int, bool) {
	list, all := [][]int{nil}, len(f.Values)-1
	for e := range f.Elements {
		// With less, the other elements would have more than their value.
		least, most := f.Values[all]-f.Values[all-1<<e], f.Values[1<<e]
		if len(list)*(most-least+1) > 3000 && e < f.Elements-1 {
			return nil, false
		}
		var longer [][]int
		for _, x := range list {
			// The last number is what the others leave of the value of all elements.
			if e == f.Elements-1 {
				least = f.Values[all] - weightIn(x, 1<<e-1)
				most = least
			}
			for v := least; v <= most; v++ {
				longer = append(longer, append(slices.Clone(x), v))
			}
		}
		list = longer
	}
	return slices.DeleteFunc(list, func(x []int) bool { return !isBaseOf(f, x) }), true
}

func isBaseOf(f impl.Function, x []int) bool {
	rest := differences(f, x)
	return slices.Min(rest) >= 0 && rest[len(rest)-1] == 0
}

// manyBases has all bases of the function, or its corners and the bases near some
// of them.
func manyBases(f impl.Function) ([][]int, bool) {
	if all, ok := allBases(f); ok {
		return all, true
	}
	bases := slices.DeleteFunc(vectorsNear(f), func(x []int) bool { return !isBaseOf(f, x) })
	for _, order := range orders(f.Elements) {
		bases = append(bases, cornerAlong(f, order))
	}
	return bases, false
}

func wantMaximum(t *testing.T, f impl.Function, w []int, want int, corner []int) {
	t.Helper()
	if got, x, ok := impl.MaximumFor(f, w); !ok || got != want || !slices.Equal(x, corner) {
		t.Errorf("MaximumFor(%v, %v) = %d, %v, %v, want %d, %v", f, w, got, x, ok, want, corner)
	}
}

func wantMinimum(t *testing.T, f impl.Function, w []int, want int, corner []int) {
	t.Helper()
	if got, x, ok := impl.MinimumFor(f, w); !ok || got != want || !slices.Equal(x, corner) {
		t.Errorf("MinimumFor(%v, %v) = %d, %v, %v, want %d, %v", f, w, got, x, ok, want, corner)
	}
}

func wantBest(t *testing.T, f impl.Function, w []int, x []int, want bool) {
	t.Helper()
	if got := impl.IsBestBase(f, w, x); got != want {
		t.Errorf("IsBestBase(%v, %v, %v) = %v", f, w, x, got)
	}
}

func TestBestOrder(t *testing.T) {
	cases := []struct {
		f       impl.Function
		w, want []int
	}{
		{function(0, 0), nil, nil}, {function(0, 0), []int{}, nil}, {function(1, 0, -7), []int{-3}, []int{0}},
		{function(2, 0, 2, 2, 3), []int{1, 3}, []int{1, 0}}, {function(2, 0, 2, 2, 3), []int{3, 1}, []int{0, 1}}, {function(2, 0, 2, 2, 3), []int{2, 2}, []int{0, 1}},
		{function(3, 0, 4, 3, 6, 5, 7, 6, 7), []int{1, 3, 1}, []int{1, 0, 2}}, {function(3, 0, 4, 3, 6, 5, 7, 6, 7), []int{-1000, 0, 1000}, []int{2, 1, 0}},
		{functionOf(5, func(int) int { return 0 }), []int{-1, 4, -1, 4, -1}, []int{1, 3, 0, 2, 4}},
	}
	for _, c := range cases {
		got, ok := impl.BestOrder(c.f, c.w)
		wantVector(t, "BestOrder", got, ok, c.want)
	}
	for _, f := range groundedSubmodular() {
		for _, w := range vectorsOf(f.Elements) {
			got, ok := impl.BestOrder(f, w)
			wantVector(t, "BestOrder", got, ok, orderBy(w))
		}
	}
}

func TestMaximumAndMinimumFor(t *testing.T) {
	f := function(3, 0, 4, 3, 6, 5, 7, 6, 7)
	cases := []struct {
		f              impl.Function
		w              []int
		greatest       int
		corner         []int
		least          int
		oppositeCorner []int
	}{
		{function(0, 0), nil, 0, nil, 0, nil}, {function(0, 0), []int{}, 0, nil, 0, nil},
		{function(1, 0, -7), []int{3}, -21, []int{-7}, -21, []int{-7}},
		{function(2, 0, 2, 2, 3), []int{3, 1}, 7, []int{2, 1}, 5, []int{1, 2}}, {function(2, 0, 2, 2, 3), []int{1, 3}, 7, []int{1, 2}, 5, []int{2, 1}},
		{function(2, 0, 2, 2, 3), []int{-3, -1}, -5, []int{1, 2}, -7, []int{2, 1}}, {function(2, 0, 4, 4, 0), []int{3, 1}, 8, []int{4, -4}, -8, []int{-4, 4}},
		// The greatest and the least number among others, whose corner is not that of their indices.
		{f, []int{1, 5, 2}, 1 + 15 + 6, []int{1, 3, 3}, 4 + 0 + 6, []int{4, 0, 3}},
		// Equal numbers keep their order from either end.
		{f, []int{2, 0, 2}, 8 + 0 + 6, []int{4, 0, 3}, 6 + 0 + 2, []int{3, 3, 1}},
		{function(1, 0, 1000), []int{1000}, 1000000, []int{1000}, 1000000, []int{1000}}, {function(1, 0, -1000), []int{-1000}, 1000000, []int{-1000}, 1000000, []int{-1000}},
		{function(2, 0, 1000, 1000, -1000), []int{1000, -1000}, 3000000, []int{1000, -2000}, -3000000, []int{-2000, 1000}},
	}
	for _, c := range cases {
		wantMaximum(t, c.f, c.w, c.greatest, c.corner)
		wantMinimum(t, c.f, c.w, c.least, c.oppositeCorner)
	}
	for _, f := range groundedSubmodular() {
		for _, w := range vectorsOf(f.Elements) {
			opposite := negatives(w)
			wantMaximum(t, f, w, levelSum(f, w), cornerAlong(f, orderBy(w)))
			wantMinimum(t, f, w, -levelSum(f, opposite), cornerAlong(f, orderBy(opposite)))
		}
	}
}

// Of all bases, none pairs with a vector more greatly than the extension says,
// and IsBestBase accepts exactly those that pair as greatly.
func TestGreatestPairings(t *testing.T) {
	complete, best, others := 0, 0, 0
	for _, f := range groundedSubmodular() {
		bases, whole := manyBases(f)
		if whole && f.Elements > 1 {
			complete++
		}
		for _, w := range vectorsOf(f.Elements) {
			extension, ok := impl.ExtensionAt(f, w)
			greatest, corner, found := impl.MaximumFor(f, w)
			if !ok || !found || extension != greatest || sumOfProducts(w, corner) != greatest {
				t.Fatalf("ExtensionAt(%v, %v) = %d, %v, MaximumFor = %d, %v, %v", f, w, extension, ok, greatest, corner, found)
			}
			least, opposite, found := impl.MinimumFor(f, w)
			if !found || sumOfProducts(w, opposite) != least {
				t.Errorf("MinimumFor(%v, %v) = %d, %v, %v", f, w, least, opposite, found)
			}
			most, few := math.MinInt, math.MaxInt
			for _, x := range bases {
				pairing := sumOfProducts(w, x)
				most, few = max(most, pairing), min(few, pairing)
				wantBest(t, f, w, x, pairing == extension)
				wantBest(t, f, negatives(w), x, pairing == least)
				if pairing == extension {
					best++
				} else {
					others++
				}
			}
			if most != greatest || few != least {
				t.Errorf("%v: the bases pair with %v from %d to %d, want %d to %d", f, w, few, most, least, greatest)
			}
		}
	}
	if complete < 100 || best < 10000 || others < 10000 {
		t.Errorf("only %d functions with all of their bases, %d best ones and %d others", complete, best, others)
	}
}

// The corner of each order in which the numbers do not grow is a best base.
func TestCornersAreBest(t *testing.T) {
	for _, f := range groundedSubmodular() {
		all := orders(f.Elements)
		for k, w := range vectorsOf(f.Elements) {
			_, corner, _ := impl.MaximumFor(f, w)
			wantBest(t, f, w, corner, true)
			_, corner, _ = impl.MinimumFor(f, w)
			wantBest(t, f, negatives(w), corner, true)
			for i, order := range all {
				// Of the orders of many elements, others for each vector.
				if f.Elements > 3 && (i+k)%13 != 0 {
					continue
				}
				x := cornerAlong(f, order)
				descends := slices.IsSortedFunc(order, func(i int, k int) int { return w[k] - w[i] })
				along := sumOfProducts(w, x)
				greatest, _, ok := impl.MaximumFor(f, w)
				if !ok || along > greatest || descends && along < greatest {
					t.Errorf("MaximumFor(%v, %v) = %d, %v, but %d along %v", f, w, greatest, ok, along, order)
				}
				wantBest(t, f, w, x, along == greatest)
			}
		}
	}
}

// What is best for a sum of vectors is at most the sum of what is best for each.
func TestMaximaAreConvex(t *testing.T) {
	strict := 0
	for _, f := range groundedSubmodular() {
		vectors := slices.DeleteFunc(vectorsOf(f.Elements), func(x []int) bool { return slices.ContainsFunc(x, func(v int) bool { return v < -100 || v > 100 }) })
		for i, x := range vectors {
			atX, _, okX := impl.MaximumFor(f, x)
			double, _, okDouble := impl.MaximumFor(f, combined(x, x, plus))
			if !okX || !okDouble || double != 2*atX {
				t.Errorf("MaximumFor(%v, %v) = %d, but %d for twice the vector", f, x, atX, double)
			}
			for _, k := range []int{1, 5, 7} {
				y := vectors[(i+k)%len(vectors)]
				atY, _, okY := impl.MaximumFor(f, y)
				atSum, _, okSum := impl.MaximumFor(f, combined(x, y, plus))
				if !okY || !okSum || atSum > atX+atY {
					t.Errorf("MaximumFor(%v) = %d, more than %d for %v and %d for %v", f, atSum, atX, x, atY, y)
				}
				if !impl.IsConvexAt(f, x, y) {
					t.Errorf("IsConvexAt(%v, %v, %v) is false", f, x, y)
				}
				if atSum < atX+atY {
					strict++
				}
			}
		}
	}
	if strict < 1000 {
		t.Errorf("only %d sums are greater", strict)
	}
}

func TestAllNumbersEqual(t *testing.T) {
	for _, f := range groundedSubmodular() {
		n, all := f.Elements, f.Values[len(f.Values)-1]
		ascending := orderBy(make([]int, n))
		bases, _ := manyBases(f)
		for _, number := range []int{0, 1, -1, 7, 1000, -1000} {
			w := slices.Repeat([]int{number}, n)
			got, ok := impl.BestOrder(f, w)
			wantVector(t, "BestOrder of equal numbers", got, ok, ascending)
			wantMaximum(t, f, w, number*all, cornerAlong(f, ascending))
			wantMinimum(t, f, w, number*all, cornerAlong(f, ascending))
			for _, x := range bases {
				wantBest(t, f, w, x, true)
			}
		}
	}
	for n := range 6 {
		want := []int{1<<n - 1}[:min(n, 1)]
		for _, number := range []int{0, 1, -1, 999, 1000, -999, -1000} {
			got, ok := impl.LevelSets(slices.Repeat([]int{number}, n))
			wantVector(t, "LevelSets of equal numbers", got, ok, want)
		}
	}
}

func TestLevelSets(t *testing.T) {
	cases := []struct{ w, want []int }{
		{nil, nil}, {[]int{}, nil}, {[]int{5}, []int{1}}, {[]int{-1000}, []int{1}}, {[]int{0, 1}, []int{2, 3}}, {[]int{1, 0}, []int{1, 3}}, {[]int{0, 0}, []int{3}},
		{[]int{1, 3, 1}, []int{2, 7}}, {[]int{3, 1, 3}, []int{5, 7}}, {[]int{-1, 0, 1}, []int{4, 6, 7}}, {[]int{1000, -1000, 1000, -1000, 0}, []int{5, 21, 31}}, {[]int{5, 4, 3, 2, 1}, []int{1, 3, 7, 15, 31}}, {[]int{2, 2, 2, 2, 3}, []int{16, 31}}, {[]int{2, 2, 2, 2, 1}, []int{15, 31}},
	}
	for _, c := range cases {
		got, ok := impl.LevelSets(c.w)
		wantVector(t, "LevelSets", got, ok, c.want)
	}
	for n := range 6 {
		for _, w := range append(indexLists(n, []int{5, 5, 5, 5, 4, 3}[n]), vectorsOf(n)...) {
			got, ok := impl.LevelSets(w)
			wantVector(t, "LevelSets", got, ok, levelsBy(w))
		}
	}
}

func TestLevelSetsInvalid(t *testing.T) {
	fails := func(w []int) {
		t.Helper()
		if got, ok := impl.LevelSets(w); ok || len(got) != 0 {
			t.Errorf("LevelSets(%v) = %v, %v", w, got, ok)
		}
	}
	for _, w := range noLengths() {
		fails(w)
		for i := range w {
			w[i] = i % 7
		}
		fails(w)
	}
	for n := range 8 {
		for _, w := range noVectors(n) {
			fails(w)
		}
		if n > 0 {
			fails(slices.Repeat([]int{1001}, n))
			fails(slices.Repeat([]int{math.MinInt}, n))
			fails(slices.Repeat([]int{math.MaxInt}, n))
		}
	}
}

func TestIsBestBase(t *testing.T) {
	f, g := function(2, 0, 2, 2, 3), function(3, 0, 4, 3, 6, 5, 7, 6, 7)
	cases := []struct {
		f    impl.Function
		w, x []int
		want bool
	}{
		{function(0, 0), nil, nil, true}, {function(0, 0), []int{}, []int{}, true}, {function(1, 0, -7), []int{3}, []int{-7}, true}, {function(1, 0, -7), []int{3}, []int{-8}, false}, {function(1, 0, -7), []int{3}, []int{-6}, false},
		{f, []int{3, 1}, []int{2, 1}, true}, {f, []int{3, 1}, []int{1, 2}, false}, {f, []int{1, 3}, []int{1, 2}, true}, {f, []int{1, 1}, []int{1, 2}, true}, {f, []int{1, 1}, []int{2, 1}, true}, {f, []int{-1, -3}, []int{2, 1}, true},
		// Vectors that are below the function, or have the weight of all elements, but are no bases.
		{f, []int{1, 1}, []int{1, 1}, false}, {f, []int{3, 1}, []int{2, 0}, false}, {f, []int{3, 1}, []int{3, 0}, false}, {f, []int{1, 1}, []int{3, 0}, false}, {f, []int{0, 0}, []int{0, 0}, false},
		// The number of the middle decides, though the first level is tight.
		{g, []int{3, 2, 1}, []int{4, 2, 1}, true}, {g, []int{3, 2, 1}, []int{4, 1, 2}, false}, {g, []int{3, 1, 1}, []int{4, 1, 2}, true}, {g, []int{3, 3, 1}, []int{3, 3, 1}, true}, {g, []int{3, 2, 1}, []int{3, 3, 1}, false},
		// A base that is no corner.
		{function(2, 0, 3, 3, 3), []int{4, 4}, []int{1, 2}, true}, {function(2, 0, 3, 3, 3), []int{4, 3}, []int{1, 2}, false},
	}
	for _, c := range cases {
		wantBest(t, c.f, c.w, c.x, c.want)
	}
	best := 0
	for _, f := range groundedSubmodular() {
		near := vectorsNear(f)
		for i, w := range vectorsOf(f.Elements) {
			levels := levelsBy(w)
			for k, x := range near {
				if f.Elements > 3 && (i+k)%5 != 0 {
					continue
				}
				rest := differences(f, x)
				want := isBaseOf(f, x) && !slices.ContainsFunc(levels, func(s int) bool { return rest[s] != 0 })
				wantBest(t, f, w, x, want)
				if want {
					best++
				}
			}
		}
	}
	if best < 1000 {
		t.Errorf("only %d bases are best", best)
	}
}

// failsToOptimize also checks IsBestBase with each of the vectors.
func failsToOptimize(t *testing.T, f impl.Function, w []int, vectors ...[]int) {
	t.Helper()
	if got, ok := impl.BestOrder(f, w); ok || len(got) != 0 {
		t.Errorf("BestOrder(%v, %v) = %v, %v", f, w, got, ok)
	}
	if got, x, ok := impl.MaximumFor(f, w); ok || got != 0 || len(x) != 0 {
		t.Errorf("MaximumFor(%v, %v) = %d, %v, %v", f, w, got, x, ok)
	}
	if got, x, ok := impl.MinimumFor(f, w); ok || got != 0 || len(x) != 0 {
		t.Errorf("MinimumFor(%v, %v) = %d, %v, %v", f, w, got, x, ok)
	}
	for _, x := range append(vectors, w, nil, make([]int, len(w))) {
		wantBest(t, f, w, x, false)
	}
}

func TestLinearUngrounded(t *testing.T) {
	for _, f := range ungrounded() {
		for n := range 7 {
			w := []int{5, 3, 4, -1, 2, 0}[:n]
			low := slices.Repeat([]int{-5000}, n)
			failsToOptimize(t, f, w, low, slices.Repeat([]int{1}, n))
			failsToOptimize(t, f, make([]int, n), low, slices.Repeat([]int{1}, n))
		}
	}
}

func TestLinearNotSubmodular(t *testing.T) {
	// It has a base for which the one level is tight, but it is not submodular.
	failsToOptimize(t, function(3, 0, 0, 0, 1, 0, 1, 1, 0), []int{1, 1, 1}, []int{0, 0, 0})
	failsToOptimize(t, function(3, 0, 1, 1, 3, 1, 2, 2, 1), []int{2, 2, 2}, []int{1, 0, 0}, []int{0, 0, 1})
	failsToOptimize(t, function(2, 0, 0, 0, 1), []int{3, 1}, []int{0, 1}, []int{1, 0}, []int{0, 0})
	count, bases := 0, 0
	for _, f := range groundedFunctions() {
		if obeysLattice(f, 1) {
			continue
		}
		count++
		var corners [][]int
		for _, order := range orders(min(f.Elements, 3)) {
			for e := 3; e < f.Elements; e++ {
				order = append(order, e)
			}
			corner := cornerAlong(f, order)
			corners = append(corners, corner)
			if isBaseOf(f, corner) {
				bases++
			}
		}
		for _, w := range vectorsOf(f.Elements) {
			failsToOptimize(t, f, w, corners...)
		}
	}
	if count < 100 || bases < 100 {
		t.Errorf("only %d of the functions are not submodular, with %d bases", count, bases)
	}
}

func TestLinearNoVectors(t *testing.T) {
	for n := range 6 {
		for _, f := range []impl.Function{
			functionOf(n, func(int) int { return 0 }),
			functionOf(n, func(s int) int { return len(elementsIn(s)) }),
			functionOf(n, func(s int) int { return len(elementsIn(s)) * (n - len(elementsIn(s))) }),
		} {
			bases, _ := manyBases(f)
			bases = bases[:min(len(bases), 9)]
			for _, w := range noVectors(n) {
				failsToOptimize(t, f, w, bases...)
			}
			for _, number := range []int{1001, -1001, math.MaxInt, math.MinInt, math.MinInt + 1} {
				if n > 0 {
					failsToOptimize(t, f, slices.Repeat([]int{number}, n), bases...)
				}
			}
			for _, length := range []int{0, 1, 2, 3, 4, 5, 6, 7, 62, 63, 64, 65, 5000} {
				if length == n {
					continue
				}
				failsToOptimize(t, f, make([]int, length), bases...)
				descending := make([]int, length)
				for i := range descending {
					descending[i] = -i % 1000
				}
				failsToOptimize(t, f, descending, bases...)
			}
		}
	}
}

func TestBestBaseOfNoBase(t *testing.T) {
	for n := range 6 {
		f := functionOf(n, func(s int) int { return 2 * len(elementsIn(s)) })
		base := slices.Repeat([]int{2}, n)
		for _, w := range vectorsOf(n) {
			wantBest(t, f, w, base, true)
			for _, length := range []int{0, 1, 2, 3, 4, 5, 6, 7, 64, 5000} {
				if length != n {
					wantBest(t, f, w, slices.Repeat([]int{2}, length), false)
					wantBest(t, f, w, make([]int, length), false)
				}
			}
			for e := range n {
				for _, v := range []int{-5001, -5000, 0, 1, 3, 5000, 5001, 1<<32 + 2, 1 << 62, math.MaxInt, math.MinInt} {
					x := slices.Clone(base)
					x[e] = v
					wantBest(t, f, w, x, false)
					// The weight of all elements is their value, though by wraparound.
					x[(e+1)%n] += 2 - v
					if n > 1 {
						wantBest(t, f, w, x, false)
					}
				}
			}
		}
	}
}

// The values after the length are unused capacity, which stays as it was too.
func TestLinearMemory(t *testing.T) {
	for n := range 6 {
		f, sameF := spare(functionOf(n, func(s int) int { return len(elementsIn(s)) * (9 - len(elementsIn(s))) }))
		for _, numbers := range [][]int{{3, 1, 4, 1, 5}, {2, 2, 2, 2, 2}, {-1, -2, -3, -4, -5}, {1, 2, 3, 4, 5}} {
			w, sameW := spare(function(0, numbers[:n]...))
			x, sameX := spare(function(0, cornerAlong(f, orderBy(w.Values))...))
			calls := map[string]func() ([]int, bool){
				"BestOrder":  func() ([]int, bool) { return impl.BestOrder(f, w.Values) },
				"LevelSets":  func() ([]int, bool) { return impl.LevelSets(w.Values) },
				"IsBestBase": func() ([]int, bool) { return nil, impl.IsBestBase(f, w.Values, x.Values) },
				"IsBestBase of w": func() ([]int, bool) {
					return nil, n == 0 || !impl.IsBestBase(f, w.Values, w.Values)
				},
				"MaximumFor": func() ([]int, bool) {
					_, corner, ok := impl.MaximumFor(f, w.Values)
					return corner, ok
				},
				"MinimumFor": func() ([]int, bool) {
					_, corner, ok := impl.MinimumFor(f, w.Values)
					return corner, ok
				},
			}
			keepMemory(t, calls, sameF, sameW, sameX)
		}
	}
}
