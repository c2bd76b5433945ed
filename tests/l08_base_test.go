package tests

import (
	"math"
	"slices"
	"testing"

	"loop.example/g03405/impl"
)

// Promise 8: elements get their capacity, and exchanges keep bases. Promise 2, as
// far as chapter 8 builds it: a function is submodular exactly if all corners are
// bases. Promise 7, as far as chapter 8 builds it: extensions are the greatest
// pairings with bases.

// groundedFunctions has every one of those of the other lists for which the empty
// set has the value 0, submodular ones and others.
func groundedFunctions() []impl.Function {
	var out []impl.Function
	for _, f := range slices.Concat(samples(), smallFunctions(), largeFunctions(), polymatroids()) {
		if f.Values[0] == 0 {
			out = append(out, f)
		}
	}
	return append(out,
		function(0, 0), function(1, 0, 1000), function(1, 0, -1000),
		function(2, 0, 1000, 1000, -1000), function(2, 0, -1000, 1000, 0), function(2, 0, 3, -1, 1),
		function(3, 0, 4, 3, 6, 5, 7, 6, 7), function(3, 0, -4, 9, 2, 0, -6, 5, -7),
		functionOf(4, func(s int) int { return 7*len(elementsIn(s)) - s*s/5 }),
		functionOf(5, func(s int) int { return len(elementsIn(s&21))*(9-2*len(elementsIn(s&11))) - s%7*len(elementsIn(s)) }))
}

// cornerAlong does not call the package, which it checks.
func cornerAlong(f impl.Function, order []int) []int {
	corner, s := make([]int, f.Elements), 0
	for _, e := range order {
		corner[e] = f.Values[s+1<<e] - f.Values[s]
		s += 1 << e
	}
	return corner
}

func raised(x []int, e int, by int) []int {
	out := slices.Clone(x)
	out[e] += by
	return out
}

// vectorsNear has corners, vectors next to them, and some that have nothing to
// do with the function, the least number among theirs.
func vectorsNear(f impl.Function) [][]int {
	n := f.Elements
	out := append(vectorsOf(n), []int{-5000, -5000, -5000, -5000, -5000}[:n], []int{-5000, 3, -2, 1, 0}[:n], []int{1, -5000, 2, 0, -1}[:n])
	for i, order := range orders(n) {
		// Of the orders of many elements, some in each part of the list.
		if n > 3 && i%13 != 0 {
			continue
		}
		corner := cornerAlong(f, order)
		out = append(out, corner)
		for e := range n {
			out = append(out, raised(corner, e, 1), raised(corner, e, -1), raised(raised(corner, e, 2), (e+1)%n, -2))
		}
	}
	slices.SortFunc(out, slices.Compare)
	return slices.CompactFunc(out, slices.Equal)
}

func weightIn(x []int, s int) int {
	sum := 0
	for _, e := range elementsIn(s) {
		sum += x[e]
	}
	return sum
}

// differences has, for each set, its value less its weight.
func differences(f impl.Function, x []int) []int {
	var out []int
	for s, v := range f.Values {
		out = append(out, v-weightIn(x, s))
	}
	return out
}

// leastDifference is that of all sets which contain one element and not another
// one; a negative element is in every set, or in none.
func leastDifference(of []int, e int, d int) int {
	least := math.MaxInt
	for s, v := range of {
		if (e < 0 || s>>e%2 == 1) && (d < 0 || s>>d%2 == 0) {
			least = min(least, v)
		}
	}
	return least
}

func wantLists(t *testing.T, call string, got [][]int, ok bool, want [][]int) {
	t.Helper()
	if !ok || !slices.EqualFunc(got, want, slices.Equal) {
		t.Errorf("%s = %v, %v, want %v", call, got, ok, want)
	}
}

func wantCapacity(t *testing.T, f impl.Function, x []int, e int, want int) {
	t.Helper()
	if got, ok := impl.CapacityOf(f, x, e); !ok || got != want {
		t.Errorf("CapacityOf(%v, %v, %d) = %d, %v, want %d", f, x, e, got, ok, want)
	}
}

func wantExchange(t *testing.T, f impl.Function, x []int, e int, d int, want int) {
	t.Helper()
	if got, ok := impl.ExchangeCapacity(f, x, e, d); !ok || got != want {
		t.Errorf("ExchangeCapacity(%v, %v, %d, %d) = %d, %v, want %d", f, x, e, d, got, ok, want)
	}
}

func TestCornerOf(t *testing.T) {
	f := function(3, 0, 4, 3, 6, 5, 7, 6, 7)
	cases := []struct {
		f           impl.Function
		order, want []int
	}{
		{f, []int{0, 1, 2}, []int{4, 2, 1}}, {f, []int{0, 2, 1}, []int{4, 0, 3}}, {f, []int{1, 0, 2}, []int{3, 3, 1}},
		// The element 1 comes first, and its number is at its index.
		{f, []int{1, 2, 0}, []int{1, 3, 3}}, {f, []int{2, 0, 1}, []int{2, 0, 5}}, {f, []int{2, 1, 0}, []int{1, 1, 5}},
		{function(0, 0), nil, nil}, {function(0, 0), []int{}, nil}, {function(1, 0, -7), []int{0}, []int{-7}},
		// A corner that is no base, since the function is not submodular.
		{function(2, 0, 0, 0, 1), []int{1, 0}, []int{1, 0}},
		{function(2, 0, 1000, 1000, -1000), []int{0, 1}, []int{1000, -2000}}, {function(2, 0, -1000, 0, 1000), []int{0, 1}, []int{-1000, 2000}},
	}
	for _, c := range cases {
		got, ok := impl.CornerOf(c.f, c.order)
		wantVector(t, "CornerOf", got, ok, c.want)
	}
	for _, f := range groundedFunctions() {
		for _, order := range orders(f.Elements) {
			got, ok := impl.CornerOf(f, order)
			wantVector(t, "CornerOf", got, ok, cornerAlong(f, order))
		}
	}
}

func TestCornersOf(t *testing.T) {
	cases := []struct {
		f    impl.Function
		want [][]int
	}{
		{function(0, 0), [][]int{{}}}, {function(1, 0, -7), [][]int{{-7}}},
		{function(2, 0, 2, 2, 3), [][]int{{2, 1}, {1, 2}}}, {function(2, 0, 1, 2, 3), [][]int{{1, 2}}}, {function(2, 0, 0, 0, 1), [][]int{{0, 1}, {1, 0}}},
		{function(3, 0, 4, 3, 6, 5, 7, 6, 7), [][]int{{4, 2, 1}, {4, 0, 3}, {3, 3, 1}, {1, 3, 3}, {2, 0, 5}, {1, 1, 5}}},
		// A corner that comes again between others keeps its first place.
		{function(3, 0, 1, 1, 1, 1, 1, 1, 1), [][]int{{1, 0, 0}, {0, 1, 0}, {0, 0, 1}}},
		{function(3, 0, 1, 1, 1, 1, 2, 2, 2), [][]int{{1, 0, 1}, {0, 1, 1}}},
	}
	for _, c := range cases {
		got, ok := impl.CornersOf(c.f)
		wantLists(t, "CornersOf", got, ok, c.want)
	}
	for _, f := range groundedFunctions() {
		if f.Elements > 4 {
			continue
		}
		all := orders(f.Elements)
		slices.SortFunc(all, slices.Compare)
		var want [][]int
		for _, order := range all {
			corner := cornerAlong(f, order)
			if !slices.ContainsFunc(want, func(other []int) bool { return slices.Equal(other, corner) }) {
				want = append(want, corner)
			}
		}
		got, ok := impl.CornersOf(f)
		wantLists(t, "CornersOf", got, ok, want)
	}
}

func TestIsBelowAndBase(t *testing.T) {
	f := function(2, 0, 2, 2, 3)
	cases := []struct {
		f           impl.Function
		x           []int
		below, base bool
		tight       []int
	}{
		{f, []int{1, 1}, true, false, []int{0}}, {f, []int{1, 2}, true, true, []int{0, 2, 3}}, {f, []int{2, 1}, true, true, []int{0, 1, 3}}, {f, []int{2, 0}, true, false, []int{0, 1}},
		{f, []int{2, 2}, false, false, nil}, {f, []int{3, 0}, false, false, nil}, {f, []int{3, -5000}, false, false, nil}, {f, []int{-5000, 2}, true, false, []int{0, 2}},
		{function(0, 0), nil, true, true, []int{0}}, {function(0, 0), []int{}, true, true, []int{0}},
		{function(1, 0, -1000), []int{-1000}, true, true, []int{0, 1}}, {function(1, 0, -1000), []int{-999}, false, false, nil}, {function(1, 0, -1000), []int{-5000}, true, false, []int{0}}, {function(1, 0, 1000), []int{5000}, false, false, nil},
		{function(2, 0, 1000, 1000, -1000), []int{1000, -2000}, true, true, []int{0, 1, 3}},
		// A function that is not submodular has bases, but not all tight sets have
		// their union among them.
		{function(3, 0, 0, 0, 1, 0, 1, 1, 0), []int{0, 0, 0}, true, true, []int{0, 1, 2, 4, 7}},
		{function(2, 0, 0, 0, 1), []int{0, 0}, true, false, []int{0, 1, 2}}, {function(2, 0, 0, 0, 1), []int{0, 1}, false, false, nil},
	}
	for _, c := range cases {
		if below, base := impl.IsBelow(c.f, c.x), impl.IsBase(c.f, c.x); below != c.below || base != c.base {
			t.Errorf("IsBelow and IsBase(%v, %v) = %v, %v", c.f, c.x, below, base)
		}
		if got, ok := impl.TightSets(c.f, c.x); ok != c.below || !slices.Equal(got, c.tight) {
			t.Errorf("TightSets(%v, %v) = %v, %v, want %v", c.f, c.x, got, ok, c.tight)
		}
	}
	belows, bases := 0, 0
	for _, f := range groundedFunctions() {
		for _, x := range vectorsNear(f) {
			rest := differences(f, x)
			below := slices.Min(rest) >= 0
			base := below && rest[len(rest)-1] == 0
			var tight []int
			for s, v := range rest {
				if below && v == 0 {
					tight = append(tight, s)
				}
			}
			if gotBelow, gotBase := impl.IsBelow(f, x), impl.IsBase(f, x); gotBelow != below || gotBase != base {
				t.Errorf("IsBelow and IsBase(%v, %v) = %v, %v", f, x, gotBelow, gotBase)
			}
			if got, ok := impl.TightSets(f, x); ok != below || !slices.Equal(got, tight) {
				t.Errorf("TightSets(%v, %v) = %v, %v, want %v", f, x, got, ok, tight)
			}
			if below {
				belows++
			}
			if base {
				bases++
			}
		}
	}
	if belows < 1000 || bases < 1000 {
		t.Errorf("only %d vectors are below, and %d are bases", belows, bases)
	}
}

// Tight sets of a submodular function are a lattice.
func TestTightSetsAreLattice(t *testing.T) {
	for _, f := range groundedFunctions() {
		if !obeysLattice(f, 1) {
			continue
		}
		for _, x := range vectorsNear(f) {
			tight, _ := impl.TightSets(f, x)
			for _, a := range tight {
				for _, b := range tight {
					if !slices.Contains(tight, a|b) || !slices.Contains(tight, a&b) {
						t.Errorf("TightSets(%v, %v) = %v has %d and %d", f, x, tight, a, b)
					}
				}
			}
		}
	}
}

func TestCapacities(t *testing.T) {
	f := function(2, 0, 2, 2, 3)
	wantCapacity(t, f, []int{1, 1}, 0, 1)
	wantCapacity(t, f, []int{1, 1}, 1, 1)
	wantCapacity(t, f, []int{0, 0}, 0, 2)
	wantCapacity(t, f, []int{1, 2}, 0, 0)
	wantCapacity(t, function(1, 0, 1000), []int{-5000}, 0, 6000)
	wantCapacity(t, function(2, 0, 9, 9, -3), []int{-5000, 4}, 0, 4993)
	wantExchange(t, f, []int{1, 2}, 0, 1, 1)
	wantExchange(t, f, []int{1, 2}, 1, 0, 0)
	wantExchange(t, f, []int{2, 1}, 0, 1, 0)
	// A vector that is below the function need not be a base.
	wantExchange(t, f, []int{0, 0}, 0, 1, 2)
	wantExchange(t, function(2, 0, 1000, 0, 0), []int{-5000, 0}, 0, 1, 6000)
	// Neither the set of one element nor that of all but one has the least difference.
	wantCapacity(t, function(3, 0, 9, 9, 3, 9, 9, 9, 9), []int{0, 0, 0}, 0, 3)
	wantExchange(t, function(3, 0, 9, 9, 3, 9, 8, 2, 1), []int{0, 0, 0}, 1, 0, 2)
	wantExchange(t, function(3, 0, 9, 9, 3, 9, 8, 2, 1), []int{0, 0, 0}, 0, 1, 8)
	for _, f := range groundedFunctions() {
		for _, x := range vectorsNear(f) {
			rest := differences(f, x)
			below := slices.Min(rest) >= 0
			for e := range f.Elements {
				if below {
					wantCapacity(t, f, x, e, leastDifference(rest, e, -1))
				} else {
					failsToRaise(t, f, x, e)
				}
				for d := range f.Elements {
					if below && d != e {
						wantExchange(t, f, x, e, d, leastDifference(rest, e, d))
					} else {
						failsToExchange(t, f, x, e, d)
					}
				}
			}
		}
	}
}

// An element that gets its capacity is in a tight set then, and gets no more.
func TestElementsGetTheirCapacity(t *testing.T) {
	count := 0
	for _, f := range groundedFunctions() {
		for _, x := range vectorsNear(f) {
			if !impl.IsBelow(f, x) {
				continue
			}
			for e := range f.Elements {
				capacity, ok := impl.CapacityOf(f, x, e)
				if !ok || capacity < 0 {
					t.Fatalf("CapacityOf(%v, %v, %d) = %d, %v", f, x, e, capacity, ok)
				}
				full := raised(x, e, capacity)
				tight, ok := impl.TightSets(f, full)
				if !ok || !impl.IsBelow(f, full) || impl.IsBelow(f, raised(full, e, 1)) {
					t.Errorf("%v: the capacity %d of %d is not the greatest one for %v", f, capacity, e, x)
				}
				if !slices.ContainsFunc(tight, func(s int) bool { return isIn(s, e) }) {
					t.Errorf("%v: %d is in no tight set of %v: %v", f, e, full, tight)
				}
				wantCapacity(t, f, full, e, 0)
				if capacity > 0 {
					count++
				}
			}
		}
	}
	if count < 1000 {
		t.Errorf("only %d capacities are greater than 0", count)
	}
}

// In whatever order the elements get their capacity, the vector is a base in the
// end if the function is submodular.
func TestCapacitiesMakeBases(t *testing.T) {
	for _, f := range groundedFunctions() {
		if !obeysLattice(f, 1) {
			continue
		}
		all := orders(f.Elements)
		for i, x := range vectorsNear(f) {
			if !impl.IsBelow(f, x) {
				continue
			}
			order := all[i%len(all)]
			for _, e := range order {
				capacity, _ := impl.CapacityOf(f, x, e)
				x = raised(x, e, capacity)
			}
			if !impl.IsBase(f, x) {
				t.Errorf("%v: %v is no base, but each element in %v got its capacity", f, x, order)
			}
		}
	}
}

// A base stays one as long as no more is exchanged than the capacity.
func TestExchangesKeepBases(t *testing.T) {
	count := 0
	for _, f := range groundedFunctions() {
		for _, x := range vectorsNear(f) {
			if !impl.IsBase(f, x) {
				continue
			}
			for e := range f.Elements {
				for d := range f.Elements {
					if d == e {
						continue
					}
					capacity, ok := impl.ExchangeCapacity(f, x, e, d)
					if !ok || capacity < 0 {
						t.Fatalf("ExchangeCapacity(%v, %v, %d, %d) = %d, %v", f, x, e, d, capacity, ok)
					}
					for _, by := range []int{0, min(1, capacity), capacity / 2, capacity} {
						if y := raised(raised(x, e, by), d, -by); !impl.IsBase(f, y) {
							t.Errorf("%v: %v is no base, but %v is, and %d can be exchanged", f, y, x, capacity)
						}
					}
					full := raised(raised(x, e, capacity), d, -capacity)
					wantExchange(t, f, full, e, d, 0)
					if y := raised(raised(full, e, 1), d, -1); impl.IsBelow(f, y) {
						t.Errorf("%v: %v is below, but only %d can be exchanged in %v", f, y, capacity, x)
					}
					if capacity > 0 {
						count++
					}
				}
			}
		}
	}
	if count < 1000 {
		t.Errorf("only %d exchanges are possible", count)
	}
}

// A corner of a submodular function is a base, for which the sets along the order
// are tight, and an exchange of two neighbours leads to the corner of the order
// in which they have changed places.
func TestCorner(t *testing.T) {
	for _, f := range groundedFunctions() {
		if !obeysLattice(f, 1) {
			continue
		}
		for _, order := range orders(f.Elements) {
			x, ok := impl.CornerOf(f, order)
			tight, below := impl.TightSets(f, x)
			if !ok || !below || !impl.IsBase(f, x) {
				t.Fatalf("CornerOf(%v, %v) = %v, %v is no base", f, order, x, ok)
			}
			s := 0
			for i, e := range order {
				if !slices.Contains(tight, s) {
					t.Errorf("TightSets(%v, %v) = %v lacks %d", f, x, tight, s)
				}
				s += 1 << e
				wantCapacity(t, f, x, e, 0)
				if i == 0 {
					continue
				}
				d := order[i-1]
				swapped := slices.Clone(order)
				swapped[i-1], swapped[i] = e, d
				capacity, _ := impl.ExchangeCapacity(f, x, e, d)
				next, ok := impl.CornerOf(f, swapped)
				wantVector(t, "CornerOf two neighbours", next, ok, raised(raised(x, e, capacity), d, -capacity))
			}
		}
	}
}

func TestSubmodularIfCornersAreBases(t *testing.T) {
	submodular := 0
	for _, f := range groundedFunctions() {
		want := impl.IsSubmodular(f)
		bases := true
		for _, order := range orders(f.Elements) {
			x, ok := impl.CornerOf(f, order)
			bases = bases && ok && impl.IsBase(f, x)
		}
		if bases != want {
			t.Errorf("IsSubmodular(%v) = %v, but all corners are bases: %v", f, want, bases)
		}
		if corners, ok := impl.CornersOf(f); ok {
			listed := !slices.ContainsFunc(corners, func(x []int) bool { return !impl.IsBase(f, x) })
			if listed != want {
				t.Errorf("IsSubmodular(%v) = %v, but CornersOf are bases: %v", f, want, listed)
			}
		}
		if want && f.Elements > 1 {
			submodular++
		}
	}
	if submodular < 100 {
		t.Errorf("only %d of the functions are submodular", submodular)
	}
}

func sumOfProducts(x []int, y []int) int {
	sum := 0
	for _, v := range combined(x, y, func(a int, b int) int { return a * b }) {
		sum += v
	}
	return sum
}

// No base pairs with a vector more greatly than the corner of its order, whose
// pairing is the extension.
func TestExtensionsAreGreatestPairings(t *testing.T) {
	for _, f := range groundedFunctions() {
		if !obeysLattice(f, 1) {
			continue
		}
		bases := slices.DeleteFunc(vectorsNear(f), func(x []int) bool { return !impl.IsBase(f, x) })
		for _, w := range vectorsOf(f.Elements) {
			extension, ok := impl.ExtensionAt(f, w)
			order, ordered := impl.OrderFor(w)
			corner, cornered := impl.CornerOf(f, order)
			if !ok || !ordered || !cornered || extension != sumOfProducts(w, corner) {
				t.Errorf("ExtensionAt(%v, %v) = %d, %v, but its corner is %v", f, w, extension, ok, corner)
			}
			for _, x := range bases {
				if sumOfProducts(w, x) > extension {
					t.Errorf("ExtensionAt(%v, %v) = %d, but more with the base %v", f, w, extension, x)
				}
			}
		}
	}
}

// ungrounded has what IsGrounded refuses, as no function or for the value of the
// empty set.
func ungrounded() []impl.Function {
	return append(noFunctions(),
		function(0, 1), function(0, -1), function(0, 1000), function(0, -1000),
		function(1, 1, 1), function(1, 1, 5), function(1, -1, 0), function(1, -1, -1),
		function(2, 1, 2, 2, 3), function(2, -1, 2, 2, 3), function(2, 5, 5, 5, 5),
		function(2, 0, 1, 1, 1001), function(2, 0, 2000, 2000, 2000), function(1, 0, -1001), function(1, 0, math.MinInt), function(1, 0, 1, 1, 1), function(2, 0, 1, 1), function(3, 0, 1),
		functionOf(3, func(s int) int { return 1 + len(elementsIn(s)) }), functionOf(4, func(s int) int { return 4 - s }), functionOf(5, func(int) int { return 1 }))
}

func failsToCorner(t *testing.T, f impl.Function, order []int) {
	t.Helper()
	if got, ok := impl.CornerOf(f, order); ok || len(got) != 0 {
		t.Errorf("CornerOf(%v, %v) = %v, %v", f, order, got, ok)
	}
}

func failsToRaise(t *testing.T, f impl.Function, x []int, e int) {
	t.Helper()
	if got, ok := impl.CapacityOf(f, x, e); ok || got != 0 {
		t.Errorf("CapacityOf(%v, %v, %d) = %d, %v", f, x, e, got, ok)
	}
}

func failsToExchange(t *testing.T, f impl.Function, x []int, e int, d int) {
	t.Helper()
	if got, ok := impl.ExchangeCapacity(f, x, e, d); ok || got != 0 {
		t.Errorf("ExchangeCapacity(%v, %v, %d, %d) = %d, %v", f, x, e, d, got, ok)
	}
}

// isNeverBelow checks all that a vector must be below the function for.
func isNeverBelow(t *testing.T, f impl.Function, x []int) {
	t.Helper()
	if impl.IsBelow(f, x) || impl.IsBase(f, x) {
		t.Errorf("IsBelow or IsBase(%v, %v) is true", f, x)
	}
	if got, ok := impl.TightSets(f, x); ok || len(got) != 0 {
		t.Errorf("TightSets(%v, %v) = %v, %v", f, x, got, ok)
	}
	for e := -1; e <= min(len(x), 6); e++ {
		failsToRaise(t, f, x, e)
		for d := -1; d <= min(len(x), 6); d++ {
			failsToExchange(t, f, x, e, d)
		}
	}
}

func TestBasesUngrounded(t *testing.T) {
	for _, f := range ungrounded() {
		for n := range 7 {
			order := make([]int, n)
			for i := range order {
				order[i] = i
			}
			failsToCorner(t, f, order)
			isNeverBelow(t, f, make([]int, n))
			isNeverBelow(t, f, []int{-5000, -5000, -5000, -5000, -5000, -5000}[:n])
		}
		if got, ok := impl.CornersOf(f); ok || len(got) != 0 {
			t.Errorf("CornersOf(%v) = %v, %v", f, got, ok)
		}
	}
}

// noElements has numbers that are no elements of n.
func noElements(n int) []int {
	return []int{-1, -2, n, n + 1, 31, 32, 62, 63, 64, 65, 1 << 32, math.MaxInt, math.MinInt, math.MinInt + 1}
}

func TestCornerOfInvalid(t *testing.T) {
	for n := range 6 {
		f := functionOf(n, func(s int) int { return len(elementsIn(s)) })
		for i, order := range orders(n) {
			if n == 5 && i%13 != 0 {
				continue
			}
			for k, e := range order {
				failsToCorner(t, f, order[:k])
				failsToCorner(t, f, order[k+1:])
				// Each element twice, the second time instead of another one or more.
				for at := range order {
					twice := slices.Clone(order)
					twice[at] = e
					if at != k {
						failsToCorner(t, f, twice)
					}
				}
				failsToCorner(t, f, append(slices.Clone(order), e))
				failsToCorner(t, f, slices.Insert(slices.Clone(order), 0, e))
				for _, no := range noElements(n) {
					other := slices.Clone(order)
					other[k] = no
					failsToCorner(t, f, other)
				}
			}
			for _, no := range noElements(n) {
				failsToCorner(t, f, append(slices.Clone(order), no))
				failsToCorner(t, f, slices.Insert(slices.Clone(order), 0, no))
			}
		}
		for _, length := range []int{0, 1, 2, 3, 4, 5, 6, 7, 62, 63, 64, 65, 5000} {
			if length != n {
				order := make([]int, length)
				failsToCorner(t, f, order)
				for i := range order {
					order[i] = i
				}
				failsToCorner(t, f, order)
			}
		}
	}
}

func TestCornersOfTooMany(t *testing.T) {
	for _, f := range groundedFunctions() {
		if got, ok := impl.CornersOf(f); ok != (f.Elements <= 4) || !ok && len(got) != 0 {
			t.Errorf("CornersOf(%v) = %v, %v", f, got, ok)
		}
	}
	f := functionOf(5, func(int) int { return 0 })
	if got, ok := impl.CornersOf(f); ok || len(got) != 0 {
		t.Errorf("CornersOf(%v) = %v, %v", f, got, ok)
	}
}

func TestNoBaseVectors(t *testing.T) {
	for n := range 6 {
		for _, f := range []impl.Function{
			functionOf(n, func(int) int { return 0 }),
			functionOf(n, func(s int) int { return 200 * len(elementsIn(s)) }),
			functionOf(n, func(s int) int { return -200 * len(elementsIn(s)) }),
		} {
			for _, length := range []int{0, 1, 2, 3, 4, 5, 6, 7, 62, 63, 64, 65, 5000} {
				if length != n {
					isNeverBelow(t, f, make([]int, length))
					isNeverBelow(t, f, slices.Repeat([]int{-300}, length))
				}
			}
			for i := range n {
				for _, v := range []int{-5001, -5002, -10000, -1 << 32, -1<<32 - 1, 5000, 5001, 1 << 32, 1 << 62, -1 << 62, math.MaxInt, math.MinInt, math.MinInt + 1} {
					x := slices.Repeat([]int{-200}, n)
					x[i] = v
					isNeverBelow(t, f, x)
					// Sums that leave the range of an int at the other end.
					x[n-1-i] = v
					isNeverBelow(t, f, x)
					isNeverBelow(t, f, slices.Repeat([]int{v}, n))
				}
				x := slices.Repeat([]int{-200}, n)
				x[i] = -5000
				if !impl.IsBelow(f, x) {
					t.Errorf("IsBelow(%v, %v) is false", f, x)
				}
				wantCapacity(t, f, x, i, leastDifference(differences(f, x), i, -1))
			}
		}
	}
}

func TestCapacitiesOfNoElements(t *testing.T) {
	for n := range 6 {
		f := functionOf(n, func(s int) int { return len(elementsIn(s)) })
		for _, x := range [][]int{make([]int, n), slices.Repeat([]int{1}, n), slices.Repeat([]int{-5000}, n)} {
			for _, no := range noElements(n) {
				failsToRaise(t, f, x, no)
				failsToExchange(t, f, x, no, no)
				for e := range n {
					failsToExchange(t, f, x, e, no)
					failsToExchange(t, f, x, no, e)
				}
				for _, other := range noElements(n) {
					failsToExchange(t, f, x, no, other)
				}
			}
			for e := range n {
				failsToExchange(t, f, x, e, e)
				if got, ok := impl.CapacityOf(f, x, e); !ok || got != 1-x[e] {
					t.Errorf("CapacityOf(%v, %v, %d) = %d, %v", f, x, e, got, ok)
				}
			}
		}
	}
}

// The values after the length are unused capacity, which stays as it was too.
func TestBaseMemory(t *testing.T) {
	for n := range 6 {
		f, sameF := spare(functionOf(n, func(s int) int { return len(elementsIn(s)) * (9 - len(elementsIn(s))) }))
		order, sameOrder := spare(function(0, slices.Clone([][]int{nil, {0}, {1, 0}, {2, 0, 1}, {1, 3, 0, 2}, {4, 2, 0, 3, 1}}[n])...))
		x, sameX := spare(function(0, cornerAlong(f, order.Values)...))
		calls := map[string]func() ([]int, bool){
			"CornerOf":  func() ([]int, bool) { return impl.CornerOf(f, order.Values) },
			"TightSets": func() ([]int, bool) { return impl.TightSets(f, x.Values) },
			"IsBelow":   func() ([]int, bool) { return nil, impl.IsBelow(f, x.Values) },
			"IsBase":    func() ([]int, bool) { return nil, impl.IsBase(f, x.Values) },
			"CornersOf": func() ([]int, bool) {
				l, ok := impl.CornersOf(f)
				return slices.Concat(l...), ok || n > 4
			},
			"CapacityOf": func() ([]int, bool) {
				c, ok := impl.CapacityOf(f, x.Values, n-1)
				return []int{c}, ok || n < 1
			},
			"ExchangeCapacity": func() ([]int, bool) {
				c, ok := impl.ExchangeCapacity(f, x.Values, n-1, 0)
				return []int{c}, ok || n < 2
			},
		}
		keepMemory(t, calls, sameF, sameOrder, sameX)
	}
}

// Each corner is written over up to its capacity: the others stay as they were.
func TestCornersShareNoMemory(t *testing.T) {
	for n := range 5 {
		f := functionOf(n, func(s int) int { return len(elementsIn(s))*(9-len(elementsIn(s))) + s%3 - s*s%3 })
		want, _ := impl.CornersOf(f)
		got, ok := impl.CornersOf(f)
		wantLists(t, "CornersOf", got, ok, want)
		if n > 1 && len(got) < 2 {
			t.Errorf("CornersOf(%v) = %v has less than two", f, got)
		}
		for i := range got {
			whole := got[i][:cap(got[i])]
			for k := range whole {
				whole[k] = 100 + i
			}
			for k, x := range got {
				if k > i && !slices.Equal(x, want[k]) || k < i && slices.Contains(x, 100+i) {
					t.Errorf("CornersOf(%v): the corners %d and %d share memory", f, i, k)
				}
			}
		}
		again, ok := impl.CornersOf(f)
		wantLists(t, "CornersOf again", again, ok, want)
	}
}
