package tests

import (
	"math"
	"slices"
	"testing"

	"loop.example/g03405/impl"
)

// Promise 5: closures are closed, and restrictions and contractions stay
// submodular.

// polymatroids has every one of up to two elements with values up to 3 and of
// three with values up to 2, covers and functions of the size of up to five
// elements, and some more, the limit among their values.
func polymatroids() []impl.Function {
	var out []impl.Function
	for n, limit := range []int{4, 4, 4, 3} {
		for _, v := range indexLists(1<<n-1, limit) {
			f := function(n, append([]int{0}, v...)...)
			if isPolymatroid(f) {
				out = append(out, f)
			}
		}
	}
	for n := range 6 {
		for _, l := range covers(n) {
			f, _ := impl.CoverFunction(n, l)
			out = append(out, f)
		}
		for most := range n + 1 {
			out = append(out, functionOf(n, func(s int) int { return min(len(elementsIn(s)), most) }))
		}
		out = append(out,
			functionOf(n, func(s int) int { return min(1000, 400*len(elementsIn(s))) }),
			functionOf(n, func(s int) int { return len(elementsIn(s&10)) + 3*len(elementsIn(s&17)) }),
			functionOf(n, func(s int) int { return min(len(elementsIn(s&7)), 2) + min(len(elementsIn(s&24)), 1) }))
	}
	return out
}

// isPolymatroid does not call the package, which it checks.
func isPolymatroid(f impl.Function) bool {
	for a, v := range f.Values {
		for b, w := range f.Values {
			if a&b == a && v > w {
				return false
			}
		}
	}
	return f.Values[0] == 0 && obeysLattice(f, 1)
}

// noSets has numbers that are no sets of n elements.
func noSets(n int) []int {
	return []int{-1, -2, 1 << n, 1<<n + 1, 2 << n, 1<<n - 1 + 1<<40, -1 << n, 1 << 62, math.MaxInt, math.MinInt}
}

// spread has the elements of s whose new numbers are in part.
func spread(part int, s int) int {
	out := 0
	for i, e := range elementsIn(s) {
		if isIn(part, i) {
			out += 1 << e
		}
	}
	return out
}

func TestClosureOf(t *testing.T) {
	f := function(3, 0, 1, 1, 1, 1, 2, 2, 2)
	cases := []struct {
		f       impl.Function
		s, want int
	}{
		{f, 0, 0}, {f, 1, 3}, {f, 2, 3}, {f, 3, 3}, {f, 4, 4}, {f, 5, 7}, {f, 6, 7}, {f, 7, 7},
		{function(0, 0), 0, 0},
		{function(1, 0, 0), 0, 1}, {function(1, 0, 0), 1, 1}, {function(1, 0, 3), 0, 0},
		// Elements of the value 0 are in the closure of the empty set.
		{function(2, 0, 0, 1, 1), 0, 1}, {function(2, 0, 1, 0, 1), 0, 2}, {function(2, 0, 0, 0, 0), 0, 3}, {function(2, 0, 0, 1, 1), 2, 3},
		// Element 0 is in the closure of element 1, which is not in that of 0.
		{function(2, 0, 1, 2, 2), 1, 1}, {function(2, 0, 1, 2, 2), 2, 3},
	}
	for _, c := range cases {
		if got := impl.ClosureOf(c.f, c.s); got != c.want {
			t.Errorf("ClosureOf(%v, %d) = %d, want %d", c.f, c.s, got, c.want)
		}
	}
	for _, f := range polymatroids() {
		for s, v := range f.Values {
			// All sets with s of the same value: the closure is their union.
			want := 0
			for larger, w := range f.Values {
				if larger&s == s && w == v {
					want |= larger
				}
			}
			if got := impl.ClosureOf(f, s); got != want {
				t.Errorf("ClosureOf(%v, %d) = %d, want %d", f, s, got, want)
			}
		}
	}
}

func TestClosuresAreClosed(t *testing.T) {
	for _, f := range polymatroids() {
		for s, v := range f.Values {
			closure := impl.ClosureOf(f, s)
			if closure&s != s || f.Values[closure] != v || impl.ClosureOf(f, closure) != closure || !impl.IsFlat(f, closure) {
				t.Errorf("ClosureOf(%v, %d) = %d is not closed", f, s, closure)
			}
			for larger := range f.Values {
				if larger&s == s && impl.ClosureOf(f, larger)&closure != closure {
					t.Errorf("%v: the closure of %d lacks elements of that of %d", f, larger, s)
				}
			}
		}
	}
}

func TestFlatsOf(t *testing.T) {
	cases := []struct {
		f    impl.Function
		want []int
	}{
		{function(0, 0), []int{0}}, {function(1, 0, 0), []int{1}}, {function(1, 0, 1000), []int{0, 1}},
		{function(2, 0, 0, 0, 0), []int{3}}, {function(2, 0, 1, 1, 1), []int{0, 3}}, {function(2, 0, 1, 1, 2), []int{0, 1, 2, 3}}, {function(2, 0, 1, 2, 2), []int{0, 1, 3}}, {function(2, 0, 0, 1, 1), []int{1, 3}},
		{function(3, 0, 1, 1, 1, 1, 2, 2, 2), []int{0, 3, 4, 7}},
	}
	for _, c := range cases {
		if got, ok := impl.FlatsOf(c.f); !ok || !slices.Equal(got, c.want) {
			t.Errorf("FlatsOf(%v) = %v, %v, want %v", c.f, got, ok, c.want)
		}
	}
	for _, f := range polymatroids() {
		// A flat has a smaller value than each larger set.
		var want []int
		for s, v := range f.Values {
			flat := true
			for larger, w := range f.Values {
				flat = flat && (larger&s != s || larger == s || w > v)
			}
			if impl.IsFlat(f, s) != flat {
				t.Errorf("IsFlat(%v, %d) = %v", f, s, !flat)
			}
			if flat {
				want = append(want, s)
			}
		}
		got, ok := impl.FlatsOf(f)
		if !ok || !slices.Equal(got, want) {
			t.Errorf("FlatsOf(%v) = %v, %v, want %v", f, got, ok, want)
		}
		for _, a := range got {
			for _, b := range got {
				if !slices.Contains(got, a&b) {
					t.Errorf("FlatsOf(%v) = %v has %d and %d, not %d", f, got, a, b, a&b)
				}
			}
		}
	}
}

func TestClosuresInvalid(t *testing.T) {
	// The last ones are functions, but no polymatroids.
	bad := append(noFunctions(), function(2, 0, 1, 1, 1001), function(2, 0, 1, 1), function(1, 0, 1, 1, 1),
		function(0, 1), function(0, -1), function(1, 0, -1), function(1, 1, 1), function(1, -1, 1),
		function(2, 0, 1, 1, 0), function(2, 0, 0, 0, 1), function(2, 1, 1, 1, 1), function(2, 0, -1, 0, 0), function(2, 0, 2, 1, 1),
		function(3, 0, 1, 1, 1, 1, 1, 1, 2))
	for _, f := range bad {
		for s := -1; s <= len(f.Values); s++ {
			if got := impl.ClosureOf(f, s); got != -1 {
				t.Errorf("ClosureOf(%v, %d) = %d", f, s, got)
			}
			if impl.IsFlat(f, s) {
				t.Errorf("IsFlat(%v, %d) is true", f, s)
			}
		}
		if got, ok := impl.FlatsOf(f); ok || len(got) != 0 {
			t.Errorf("FlatsOf(%v) = %v, %v", f, got, ok)
		}
	}
	for n := range 6 {
		f := functionOf(n, func(s int) int { return min(len(elementsIn(s)), 2) })
		for _, s := range noSets(n) {
			if got := impl.ClosureOf(f, s); got != -1 {
				t.Errorf("ClosureOf(%v, %d) = %d", f, s, got)
			}
			if impl.IsFlat(f, s) {
				t.Errorf("IsFlat(%v, %d) is true", f, s)
			}
		}
	}
}

func TestRestrictFunction(t *testing.T) {
	f := function(3, 0, 3, 1, 4, 2, 5, 9, 7)
	got, ok := impl.RestrictFunction(f, 5)
	wantFunction(t, "to elements 0 and 2", got, ok, function(2, 0, 3, 2, 5))
	got, ok = impl.RestrictFunction(f, 6)
	wantFunction(t, "to elements 1 and 2", got, ok, function(2, 0, 1, 2, 9))
	got, ok = impl.RestrictFunction(function(2, 8, 3, 1, 4), 0)
	wantFunction(t, "to no elements", got, ok, function(0, 8))
	got, ok = impl.RestrictFunction(function(0, -1000), 0)
	wantFunction(t, "without elements", got, ok, function(0, -1000))
	for _, f := range slices.Concat(samples(), smallFunctions(), largeFunctions()) {
		submodular := obeysLattice(f, 1)
		for s := range f.Values {
			got, ok := impl.RestrictFunction(f, s)
			wantFunction(t, "RestrictFunction", got, ok, functionOf(len(elementsIn(s)), func(part int) int { return f.Values[spread(part, s)] }))
			if submodular {
				wantSubmodular(t, "RestrictFunction", got)
			}
		}
		got, ok := impl.RestrictFunction(f, len(f.Values)-1)
		wantFunction(t, "to all elements", got, ok, f)
	}
}

func TestContractFunction(t *testing.T) {
	f := function(3, 0, 3, 1, 4, 2, 5, 9, 7)
	got, ok := impl.ContractFunction(f, 2)
	wantFunction(t, "by element 1", got, ok, function(2, 0, 3, 8, 6))
	got, ok = impl.ContractFunction(f, 1)
	wantFunction(t, "by element 0", got, ok, function(2, 0, 1, 2, 4))
	got, ok = impl.ContractFunction(f, 6)
	wantFunction(t, "by elements 1 and 2", got, ok, function(1, 0, -2))
	got, ok = impl.ContractFunction(function(2, 8, 3, 1, 4), 0)
	wantFunction(t, "by no elements", got, ok, function(2, 0, -5, -7, -4))
	got, ok = impl.ContractFunction(function(2, 8, 3, 1, 4), 3)
	wantFunction(t, "by all elements", got, ok, function(0, 0))
	got, ok = impl.ContractFunction(function(0, -1000), 0)
	wantFunction(t, "without elements", got, ok, function(0, 0))
	for _, f := range slices.Concat(samples(), smallFunctions(), largeFunctions()) {
		submodular := obeysLattice(f, 1)
		for s, v := range f.Values {
			others := len(f.Values) - 1 - s
			got, ok := impl.ContractFunction(f, s)
			wantFunction(t, "ContractFunction", got, ok, functionOf(len(elementsIn(others)), func(part int) int { return f.Values[spread(part, others)+s] - v }))
			if ok && submodular {
				wantSubmodular(t, "ContractFunction", got)
			}
		}
	}
}

// A polymatroid stays one, and the flats of a contraction are those with the set.
func TestMinorsOfPolymatroids(t *testing.T) {
	for _, f := range polymatroids() {
		for s := range f.Values {
			restricted, ok := impl.RestrictFunction(f, s)
			if !ok || !isPolymatroid(restricted) {
				t.Errorf("RestrictFunction(%v, %d) = %v, %v is no polymatroid", f, s, restricted, ok)
			}
			contracted, ok := impl.ContractFunction(f, s)
			if !ok || !isPolymatroid(contracted) {
				t.Errorf("ContractFunction(%v, %d) = %v, %v is no polymatroid", f, s, contracted, ok)
			}
			var want []int
			others := len(f.Values) - 1 - s
			flats, _ := impl.FlatsOf(f)
			for part := range contracted.Values {
				if slices.Contains(flats, spread(part, others)+s) {
					want = append(want, part)
				}
			}
			if got, ok := impl.FlatsOf(contracted); !ok || !slices.Equal(got, want) {
				t.Errorf("%v contracted by %d has the flats %v, %v, want %v", f, s, got, ok, want)
			}
		}
	}
}

func TestOppositeFunction(t *testing.T) {
	got, ok := impl.OppositeFunction(function(2, 0, 1, 2, 5))
	wantFunction(t, "OppositeFunction", got, ok, function(2, 5, 2, 1, 0))
	got, ok = impl.OppositeFunction(function(0, -9))
	wantFunction(t, "OppositeFunction without elements", got, ok, function(0, -9))
	for _, f := range slices.Concat(samples(), smallFunctions(), largeFunctions()) {
		want := impl.Function{Elements: f.Elements, Values: slices.Clone(f.Values)}
		slices.Reverse(want.Values)
		got, ok := impl.OppositeFunction(f)
		wantFunction(t, "OppositeFunction", got, ok, want)
		if obeysLattice(f, 1) {
			wantSubmodular(t, "OppositeFunction", got)
		}
	}
}

// weightLists has lists of n weights.
func weightLists(n int) [][]int {
	all := [][]int{{0, 0, 0, 0, 0}, {1, 1, 1, 1, 1}, {3, 4, 5, 6, 7}, {-1, 2, -4, 8, -16}, {1000, -1000, 1000, -1000, 1000}, {-1000, 0, 7, 999, 1}, {900, 30, 20, 10, 1}}
	for i := range all {
		all[i] = all[i][:n]
	}
	return all
}

func TestDualFunction(t *testing.T) {
	f := function(3, 0, 1, 1, 1, 1, 2, 2, 2)
	got, ok := impl.DualFunction(f, []int{1, 1, 1})
	wantFunction(t, "with the weights 1", got, ok, function(3, 0, 1, 1, 1, 0, 1, 1, 1))
	got, ok = impl.DualFunction(f, []int{5, -2, 9})
	wantFunction(t, "with the weights 5, -2 and 9", got, ok, function(3, 0, 5, -2, 2, 8, 13, 6, 10))
	got, ok = impl.DualFunction(function(2, 3, 1, 4, 9), []int{0, 0})
	wantFunction(t, "with the weights 0", got, ok, function(2, 0, -5, -8, -6))
	for _, w := range [][]int{nil, {}} {
		got, ok = impl.DualFunction(function(0, 9), w)
		wantFunction(t, "without elements", got, ok, function(0, 0))
	}
	for _, f := range slices.Concat(samples(), smallFunctions(), largeFunctions()) {
		all := len(f.Values) - 1
		for _, w := range weightLists(f.Elements) {
			got, ok := impl.DualFunction(f, w)
			wantFunction(t, "DualFunction", got, ok, functionOf(f.Elements, func(s int) int {
				sum := f.Values[all-s] - f.Values[all]
				for _, e := range elementsIn(s) {
					sum += w[e]
				}
				return sum
			}))
			if !ok {
				continue
			}
			if obeysLattice(f, 1) {
				wantSubmodular(t, "DualFunction", got)
			}
			// The dual of the dual is the function again, but for its value of the empty set.
			want := functionOf(f.Elements, func(s int) int { return f.Values[s] - f.Values[0] })
			got, ok = impl.DualFunction(got, w)
			wantFunction(t, "the dual of the dual", got, ok, want)
		}
	}
}

func TestMinorsInvalid(t *testing.T) {
	for _, f := range append(noFunctions(), function(2, 0, 1, 1, 1001), function(2, 0, 1001, 1001, 1001), function(1, 2000, 2000)) {
		for s := -1; s <= len(f.Values); s++ {
			if got, ok := impl.RestrictFunction(f, s); ok || !isZero(got) {
				t.Errorf("RestrictFunction(%v, %d) = %v, %v", f, s, got, ok)
			}
			if got, ok := impl.ContractFunction(f, s); ok || !isZero(got) {
				t.Errorf("ContractFunction(%v, %d) = %v, %v", f, s, got, ok)
			}
		}
		if got, ok := impl.OppositeFunction(f); ok || !isZero(got) {
			t.Errorf("OppositeFunction(%v) = %v, %v", f, got, ok)
		}
	}
	for n := range 6 {
		for _, s := range noSets(n) {
			f := functionOf(n, func(s int) int { return len(elementsIn(s)) })
			if got, ok := impl.RestrictFunction(f, s); ok || !isZero(got) {
				t.Errorf("RestrictFunction(%v, %d) = %v, %v", f, s, got, ok)
			}
			if got, ok := impl.ContractFunction(f, s); ok || !isZero(got) {
				t.Errorf("ContractFunction(%v, %d) = %v, %v", f, s, got, ok)
			}
		}
	}
	// Of the same function, one contraction is out of range and another is not.
	f := function(2, 1000, -1, 0, 500)
	for s, want := range []impl.Function{{}, function(1, 0, 501), function(1, 0, 500), function(0, 0)} {
		got, ok := impl.ContractFunction(f, s)
		wantFunction(t, "ContractFunction of 1000 and -1", got, ok, want)
	}
	got, ok := impl.ContractFunction(function(1, 500, -500), 0)
	wantFunction(t, "1000 less", got, ok, function(1, 0, -1000))
	for _, f := range []impl.Function{function(1, 501, -500), function(1, -501, 500), function(1, 1000, -1000), function(1, -1000, 1000)} {
		if got, ok := impl.ContractFunction(f, 0); ok || !isZero(got) {
			t.Errorf("ContractFunction(%v, 0) = %v, %v", f, got, ok)
		}
	}
}

func TestDualFunctionInvalid(t *testing.T) {
	for _, f := range append(noFunctions(), function(1, 2000, 2000), function(2, 0, 1, 1, 1001)) {
		for n := range 6 {
			if got, ok := impl.DualFunction(f, make([]int, n)); ok || !isZero(got) {
				t.Errorf("DualFunction(%v, %d weights) = %v, %v", f, n, got, ok)
			}
		}
	}
	for n := range 6 {
		f := functionOf(n, func(s int) int { return len(elementsIn(s)) })
		for _, count := range []int{0, 1, 2, 3, 4, 5, 6, 7, 62, 63, 64, 65} {
			if got, ok := impl.DualFunction(f, make([]int, count)); ok != (count == n) || !ok && !isZero(got) {
				t.Errorf("DualFunction(%v, %d weights) = %v, %v", f, count, got, ok)
			}
		}
	}
	cases := []struct {
		f impl.Function
		w []int
	}{
		// The values are in range, a weight is not.
		{function(1, 0, 1), []int{1001}}, {function(1, 0, -1), []int{-1001}}, {function(1, 0, 1000), []int{2000}}, {function(2, 0, 0, 500, 500), []int{0, 1500}}, {function(2, 0, -600, 0, -600), []int{-1500, 0}},
		// The weights are in range, a value is not.
		{function(1, 0, -1), []int{1000}}, {function(1, 0, 1), []int{-1000}}, {function(1, 1, 0), []int{1000}}, {function(1, 1000, -1000), []int{0}}, {function(1, -1000, 1000), []int{0}}, {function(2, 0, 0, 0, 0), []int{501, 500}}, {function(2, 0, 0, 0, 0), []int{-501, -500}}, {function(2, 0, 1001, 0, 1), []int{0, 0}},
		{function(5, make([]int, 32)...), []int{1000, 1000, 1000, 1000, 1000}},
		{function(1, 0, 0), []int{math.MaxInt}}, {function(1, 0, 0), []int{math.MinInt}}, {function(2, 0, 0, 0, 0), []int{math.MinInt, math.MinInt}}, {function(2, 0, 0, 0, 0), []int{math.MaxInt, math.MinInt}}, {function(4, make([]int, 16)...), []int{1 << 62, 1 << 62, 1 << 62, 1 << 62}},
	}
	for _, c := range cases {
		if got, ok := impl.DualFunction(c.f, c.w); ok || !isZero(got) {
			t.Errorf("DualFunction(%v, %v) = %v, %v", c.f, c.w, got, ok)
		}
	}
}

// keepMemory writes over the result of each call: neither an argument nor the
// result of the next call may change with it.
func keepMemory(t *testing.T, calls map[string]func() ([]int, bool), same ...func() bool) {
	t.Helper()
	for name, call := range calls {
		first, ok := call()
		want := slices.Clone(first)
		for i := range first {
			first[i] = 99
		}
		second, again := call()
		if !ok || !again || !slices.Equal(second, want) {
			t.Errorf("%s: %v, %v, then %v, %v", name, want, ok, second, again)
		}
		for _, isSame := range same {
			if !isSame() {
				t.Errorf("%s: an argument was modified", name)
			}
		}
	}
}

// The values after the length are unused capacity, which stays as it was too.
func TestClosureMemory(t *testing.T) {
	for n := range 6 {
		whole := 1<<n - 1
		f, same := spare(functionOf(n, func(s int) int { return 2 * len(elementsIn(s)) }))
		weights, sameWeights := spare(function(0, []int{3, 4, 5, 6, 7}[:n]...))
		calls := map[string]func() ([]int, bool){
			"FlatsOf":          func() ([]int, bool) { return impl.FlatsOf(f) },
			"RestrictFunction": func() ([]int, bool) { g, ok := impl.RestrictFunction(f, whole); return g.Values, ok },
			"ContractFunction": func() ([]int, bool) { g, ok := impl.ContractFunction(f, 0); return g.Values, ok },
			"OppositeFunction": func() ([]int, bool) { g, ok := impl.OppositeFunction(f); return g.Values, ok },
			"DualFunction":     func() ([]int, bool) { g, ok := impl.DualFunction(f, weights.Values); return g.Values, ok },
			"ClosureOf":        func() ([]int, bool) { return []int{impl.ClosureOf(f, whole)}, true },
			"IsFlat":           func() ([]int, bool) { return nil, impl.IsFlat(f, whole) },
		}
		keepMemory(t, calls, same, sameWeights)
	}
}
