package tests

import (
	"math"
	"slices"
	"testing"

	"loop.example/g03405/impl"
)

// Promise 6: convolutions with modular functions stay submodular.

// leastSplit tries every part of s, and returns the least one with the least
// sum, and this sum.
func leastSplit(f impl.Function, g impl.Function, s int) (int, int) {
	part, least := 0, math.MaxInt
	for a := range f.Values {
		if sum := f.Values[a] + g.Values[s&^a]; a&s == a && sum < least {
			part, least = a, sum
		}
	}
	return part, least
}

func convolution(f impl.Function, g impl.Function) impl.Function {
	return functionOf(f.Elements, func(s int) int {
		_, least := leastSplit(f, g, s)
		return least
	})
}

// functionPairs has pairs with as many elements: every one of up to one element
// with values up to 2, and of two with values up to 1, and some of up to five
// elements, those whose convolution is out of range among them.
func functionPairs() [][2]impl.Function {
	var out [][2]impl.Function
	cross := func(left []impl.Function, right []impl.Function) {
		for _, f := range left {
			for _, g := range right {
				if f.Elements == g.Elements {
					out = append(out, [2]impl.Function{f, g})
				}
			}
		}
	}
	for n, limit := range []int{4, 4, 3} {
		var all []impl.Function
		for _, v := range indexLists(1<<n, limit) {
			all = append(all, functionOf(n, func(s int) int { return v[s] - 1 }))
		}
		cross(all, all)
	}
	some := []impl.Function{
		function(3, 0, 1, -1, 2, 0, 0, 1, -2),
		functionOf(4, func(s int) int { return len(elementsIn(s))*len(elementsIn(s)) - s }),
		functionOf(5, func(s int) int { return (7*s + 5) % 9 }),
	}
	cross(slices.Concat(smallFunctions(), largeFunctions()), some)
	cross(some, largeFunctions())
	cross(samples(), samples())
	return out
}

func TestConvolveFunctions(t *testing.T) {
	cases := []struct{ f, g, want impl.Function }{
		{function(2, 0, 1, 1, 2), function(2, 0, 2, 0, 2), function(2, 0, 1, 0, 1)},
		{function(2, 3, 5, -2, 4), function(2, 1, 9, 8, -7), function(2, 4, 6, -1, -4)},
		// The value of the empty set is added where a function gets no elements.
		{function(1, 5, 0), function(1, 7, 0), function(1, 12, 5)}, {function(1, 7, 0), function(1, 5, 0), function(1, 12, 5)},
		{function(0, 4), function(0, -9), function(0, -5)},
		// Sums that are not least may be out of range.
		{function(1, 0, 1000), function(1, 0, 1000), function(1, 0, 1000)}, {function(1, 500, 1000), function(1, 500, -500), function(1, 1000, 0)},
		{function(1, 0, -1000), function(1, 0, -999), function(1, 0, -1000)},
	}
	for _, c := range cases {
		got, ok := impl.ConvolveFunctions(c.f, c.g)
		wantFunction(t, "ConvolveFunctions", got, ok, c.want)
	}
	for _, p := range functionPairs() {
		got, ok := impl.ConvolveFunctions(p[0], p[1])
		wantFunction(t, "ConvolveFunctions", got, ok, convolution(p[0], p[1]))
	}
}

func TestSplitOf(t *testing.T) {
	f, g := function(2, 0, 1, 1, 2), function(2, 0, 2, 0, 2)
	cases := []struct {
		f, g    impl.Function
		s, want int
	}{
		{f, g, 0, 0}, {f, g, 1, 1}, {f, g, 2, 0}, {f, g, 3, 1}, {g, f, 1, 0}, {g, f, 2, 2}, {g, f, 3, 2},
		{function(0, 3), function(0, 4), 0, 0}, {function(0, 1000), function(0, 1000), 0, 0},
		// Of parts with one sum, the least number counts, not the fewest elements.
		{function(3, 9, 9, 9, 0, 0, 9, 9, 9), function(3, 9, 9, 9, 0, 0, 9, 9, 9), 7, 3},
		{function(1, 2, 5), function(1, 0, 3), 1, 0}, {function(1, 2, 4), function(1, 0, 3), 1, 1},
	}
	for _, c := range cases {
		if got, ok := impl.SplitOf(c.f, c.g, c.s); !ok || got != c.want {
			t.Errorf("SplitOf(%v, %v, %d) = %d, %v, want %d", c.f, c.g, c.s, got, ok, c.want)
		}
	}
	// A convolution that is out of range has its splits all the same.
	for _, p := range functionPairs() {
		for s := range p[0].Values {
			want, _ := leastSplit(p[0], p[1], s)
			if got, ok := impl.SplitOf(p[0], p[1], s); !ok || got != want {
				t.Errorf("SplitOf(%v, %v, %d) = %d, %v, want %d", p[0], p[1], s, got, ok, want)
			}
		}
	}
}

func TestConvolveEqualFunctions(t *testing.T) {
	got, ok := impl.ConvolveFunctions(function(2, 0, 1, 1, 4), function(2, 0, 1, 1, 4))
	wantFunction(t, "a function with itself", got, ok, function(2, 0, 1, 1, 2))
	if part, ok := impl.SplitOf(function(2, 0, 1, 1, 4), function(2, 0, 1, 1, 4), 3); !ok || part != 1 {
		t.Errorf("a function with itself is split at %d, %v, want 1", part, ok)
	}
	for _, f := range slices.Concat(samples(), smallFunctions(), largeFunctions()) {
		want := convolution(f, f)
		submodular := obeysLattice(f, 1)
		if submodular {
			// Nothing is gained by parting a set.
			want = functionOf(f.Elements, func(s int) int { return f.Values[0] + f.Values[s] })
		}
		// The second one shares its memory with the first, the third does not.
		for _, g := range []impl.Function{f, function(f.Elements, slices.Clone(f.Values)...)} {
			got, ok := impl.ConvolveFunctions(f, g)
			wantFunction(t, "a function with itself", got, ok, want)
			for s := range f.Values {
				part, least := leastSplit(f, g, s)
				if got, ok := impl.SplitOf(f, g, s); !ok || got != part || submodular && got != 0 || f.Values[got]+g.Values[s-got] != least {
					t.Errorf("SplitOf(%v, itself, %d) = %d, %v, want %d", f, s, got, ok, part)
				}
			}
		}
	}
}

func TestConvolutionsStaySubmodular(t *testing.T) {
	count := 0
	for _, f := range slices.Concat(samples(), smallFunctions(), largeFunctions(), polymatroids()) {
		if !obeysLattice(f, 1) {
			continue
		}
		for _, w := range weightLists(f.Elements) {
			for _, c := range []int{0, 5, -300} {
				g, ok := impl.ModularFunction(w, c)
				if !ok {
					continue
				}
				first, ok := impl.ConvolveFunctions(f, g)
				second, same := impl.ConvolveFunctions(g, f)
				if ok != same || ok != impl.IsFunction(convolution(f, g)) || !impl.EqualFunctions(first, second) {
					t.Errorf("%v with %v = %v, %v, the other way %v, %v", f, g, first, ok, second, same)
				}
				if ok {
					count++
					wantSubmodular(t, "ConvolveFunctions", first)
				}
			}
		}
	}
	if count < 1000 {
		t.Errorf("only %d convolutions", count)
	}
}

func TestIncreasingHull(t *testing.T) {
	cases := []struct{ f, want impl.Function }{
		{function(2, 0, 3, 1, 2), function(2, 0, 2, 1, 2)}, {function(2, 4, 3, 2, -1), function(2, -1, -1, -1, -1)}, {function(2, 0, 1, 3, 2), function(2, 0, 1, 2, 2)},
		{function(0, 4), function(0, 4)}, {function(1, 1000, -1000), function(1, -1000, -1000)}, {function(1, -1000, 1000), function(1, -1000, 1000)},
		{function(3, 5, 9, 9, 9, 9, 2, 4, 3), function(3, 2, 2, 3, 3, 2, 2, 3, 3)},
	}
	for _, c := range cases {
		got, ok := impl.IncreasingHull(c.f)
		wantFunction(t, "IncreasingHull", got, ok, c.want)
	}
	for _, f := range slices.Concat(samples(), smallFunctions(), largeFunctions()) {
		want := functionOf(f.Elements, func(s int) int {
			least := f.Values[s]
			for larger, v := range f.Values {
				if larger&s == s {
					least = min(least, v)
				}
			}
			return least
		})
		got, ok := impl.IncreasingHull(f)
		wantFunction(t, "IncreasingHull", got, ok, want)
		if !impl.IsIncreasing(got) || impl.IsIncreasing(f) && !impl.EqualFunctions(got, f) {
			t.Errorf("IncreasingHull(%v) = %v", f, got)
		}
		if obeysLattice(f, 1) {
			wantSubmodular(t, "IncreasingHull", got)
		}
	}
}

func TestTruncateFunction(t *testing.T) {
	f := function(2, 0, 3, -2, 5)
	cases := []struct {
		k    int
		want impl.Function
	}{
		{5, f}, {6, f}, {1000, f}, {4, function(2, 0, 3, -2, 4)}, {1, function(2, 0, 1, -2, 1)}, {0, function(2, 0, 0, -2, 0)},
		{-1, function(2, -1, -1, -2, -1)}, {-3, function(2, -3, -3, -3, -3)}, {-1000, function(2, -1000, -1000, -1000, -1000)},
	}
	for _, c := range cases {
		got, ok := impl.TruncateFunction(f, c.k)
		wantFunction(t, "TruncateFunction", got, ok, c.want)
	}
	for _, f := range slices.Concat(samples(), polymatroids()) {
		for _, k := range []int{-1000, -999, -1, 0, 1, 2, 7, 100, 999, 1000} {
			got, ok := impl.TruncateFunction(f, k)
			wantFunction(t, "TruncateFunction", got, ok, functionOf(f.Elements, func(s int) int {
				if f.Values[s] > k {
					return k
				}
				return f.Values[s]
			}))
			if isPolymatroid(f) {
				wantSubmodular(t, "TruncateFunction", got)
			}
		}
	}
}

func TestReduceFunction(t *testing.T) {
	got, ok := impl.ReduceFunction(function(2, 0, 2, 2, 3), []int{1, 5})
	wantFunction(t, "by the weights 1 and 5", got, ok, function(2, 0, 1, 2, 3))
	got, ok = impl.ReduceFunction(function(2, 0, 2, 2, 3), []int{-4, 1})
	wantFunction(t, "by the weights -4 and 1", got, ok, function(2, 0, -4, 1, -3))
	got, ok = impl.ReduceFunction(function(2, 5, 2, 7, 9), []int{3, 1})
	wantFunction(t, "where the empty set has a value", got, ok, function(2, 5, 2, 6, 3))
	for _, w := range [][]int{nil, {}} {
		got, ok = impl.ReduceFunction(function(0, 9), w)
		wantFunction(t, "without elements", got, ok, function(0, 9))
	}
	for _, f := range slices.Concat(samples(), smallFunctions(), largeFunctions(), polymatroids()) {
		submodular, polymatroid := obeysLattice(f, 1), isPolymatroid(f)
		for _, w := range weightLists(f.Elements) {
			modular := functionOf(f.Elements, func(s int) int {
				sum := 0
				for _, e := range elementsIn(s) {
					sum += w[e]
				}
				return sum
			})
			var want impl.Function
			if impl.IsFunction(modular) {
				want = convolution(f, modular)
			}
			got, ok := impl.ReduceFunction(f, w)
			wantFunction(t, "ReduceFunction", got, ok, want)
			if ok && submodular {
				wantSubmodular(t, "ReduceFunction", got)
			}
			if ok && polymatroid && slices.Min(slices.Concat(w, []int{0})) == 0 && !isPolymatroid(got) {
				t.Errorf("ReduceFunction(%v, %v) = %v is no polymatroid", f, w, got)
			}
		}
	}
}

// failsToConvolve checks both orders of the arguments.
func failsToConvolve(t *testing.T, f impl.Function, g impl.Function) {
	t.Helper()
	for _, p := range [][2]impl.Function{{f, g}, {g, f}} {
		if got, ok := impl.ConvolveFunctions(p[0], p[1]); ok || !isZero(got) {
			t.Errorf("ConvolveFunctions(%v, %v) = %v, %v", p[0], p[1], got, ok)
		}
	}
}

// failsToSplit checks both orders of the arguments.
func failsToSplit(t *testing.T, f impl.Function, g impl.Function, s int) {
	t.Helper()
	for _, p := range [][2]impl.Function{{f, g}, {g, f}} {
		if got, ok := impl.SplitOf(p[0], p[1], s); ok || got != 0 {
			t.Errorf("SplitOf(%v, %v, %d) = %d, %v", p[0], p[1], s, got, ok)
		}
	}
}

func TestConvolveInvalid(t *testing.T) {
	for _, f := range append(noFunctions(), function(1, 0, 2000), function(2, 0, 0, 0, math.MaxInt), function(2, 0, math.MinInt, 0, 0), function(1, 2000, -2000)) {
		// The partner agrees in Elements wherever it can.
		for _, g := range append(samples(), f, function(1, -1000, -1000), function(1, 1000, 1000), function(2, 0, -500, -500, -500)) {
			failsToConvolve(t, f, g)
			for s := -1; s <= len(f.Values); s++ {
				failsToSplit(t, f, g, s)
			}
		}
	}
	for n := range 6 {
		for m := range n {
			f, g := functionOf(n, func(s int) int { return len(elementsIn(s)) }), functionOf(m, func(s int) int { return s })
			failsToConvolve(t, f, g)
			for s := range f.Values {
				failsToSplit(t, f, g, s)
			}
		}
		f, g := functionOf(n, func(s int) int { return len(elementsIn(s)) }), functionOf(n, func(s int) int { return s })
		for _, s := range noSets(n) {
			failsToSplit(t, f, g, s)
		}
	}
}

func TestConvolveOutOfRange(t *testing.T) {
	pairs := [][2]impl.Function{
		{function(0, 1000), function(0, 1)}, {function(0, -1000), function(0, -1)}, {function(0, 1000), function(0, 1000)}, {function(0, -1000), function(0, -1000)},
		// The value of one set is out of range, that of the other one is not.
		{function(1, 600, 0), function(1, 500, 0)}, {function(1, 1, -1000), function(1, -1, 0)}, {function(1, 0, -600), function(1, -500, 0)}, {function(1, 400, 1000), function(1, 1, 601)},
		{function(2, 0, 0, 0, -501), function(2, -500, 0, 0, 0)}, {function(2, 0, -501, 0, 0), function(2, 0, 0, -500, 0)},
	}
	for _, p := range pairs {
		failsToConvolve(t, p[0], p[1])
		for s := range p[0].Values {
			want, _ := leastSplit(p[0], p[1], s)
			if got, ok := impl.SplitOf(p[0], p[1], s); !ok || got != want {
				t.Errorf("SplitOf(%v, %v, %d) = %d, %v, want %d", p[0], p[1], s, got, ok, want)
			}
		}
	}
}

func TestHullAndTruncateInvalid(t *testing.T) {
	for _, f := range append(noFunctions(), function(1, 2000, 0), function(2, 0, 0, 1001, 0), function(2, 5000, 0, 0, 0)) {
		if got, ok := impl.IncreasingHull(f); ok || !isZero(got) {
			t.Errorf("IncreasingHull(%v) = %v, %v", f, got, ok)
		}
		for _, k := range []int{-1001, -1000, 0, 1000, 1001} {
			if got, ok := impl.TruncateFunction(f, k); ok || !isZero(got) {
				t.Errorf("TruncateFunction(%v, %d) = %v, %v", f, k, got, ok)
			}
		}
	}
	for _, f := range samples() {
		for _, k := range []int{-1001, 1001, -1002, 1002, -9999, 9999, 1 << 32, -1 << 32, 1<<32 + 1, math.MinInt, math.MinInt + 1, math.MaxInt} {
			if got, ok := impl.TruncateFunction(f, k); ok || !isZero(got) {
				t.Errorf("TruncateFunction(%v, %d) = %v, %v", f, k, got, ok)
			}
		}
	}
}

func TestReduceFunctionInvalid(t *testing.T) {
	fails := func(f impl.Function, w []int) {
		t.Helper()
		if got, ok := impl.ReduceFunction(f, w); ok || !isZero(got) {
			t.Errorf("ReduceFunction(%v, %v) = %v, %v", f, w, got, ok)
		}
	}
	for _, f := range append(noFunctions(), function(1, 0, 2000), function(2, 0, 0, 1001, 0)) {
		for n := range 7 {
			fails(f, make([]int, n))
		}
	}
	for n := range 6 {
		for _, count := range []int{0, 1, 2, 3, 4, 5, 6, 7, 62, 63, 64, 65} {
			if count != n {
				fails(functionOf(n, func(s int) int { return len(elementsIn(s)) }), make([]int, count))
			}
		}
	}
	cases := []struct {
		f impl.Function
		w []int
	}{
		// The convolution is in range, but a weight or a sum of weights is not.
		{function(1, 0, 5), []int{1001}}, {function(1, 1000, 5), []int{-1001}}, {function(2, 0, 1, 1, 2), []int{501, 500}}, {function(2, 1000, 1, 1, 2), []int{-501, -500}},
		{function(2, 0, 0, 0, 0), []int{1500, -1500}}, {function(5, make([]int, 32)...), []int{1000, 1000, 1000, 1000, 1000}},
		{function(1, 0, 5), []int{math.MaxInt}}, {function(1, 0, 5), []int{math.MinInt}}, {function(2, 0, 0, 0, 0), []int{math.MinInt, math.MinInt}}, {function(4, make([]int, 16)...), []int{1 << 62, 1 << 62, 1 << 62, 1 << 62}},
		// The weights are in range, but the convolution is not.
		{function(1, -1000, 0), []int{-1}}, {function(1, -1, 0), []int{-1000}}, {function(2, 0, -1000, 0, 0), []int{0, -1}}, {function(2, 0, 0, -500, 0), []int{-501, 0}},
	}
	for _, c := range cases {
		fails(c.f, c.w)
	}
}

// The values after the length are unused capacity, which stays as it was too.
func TestConvolveMemory(t *testing.T) {
	for n := range 6 {
		whole := 1<<n - 1
		f, sameF := spare(functionOf(n, func(s int) int { return 2 * len(elementsIn(s)) }))
		g, sameG := spare(functionOf(n, func(s int) int { return s }))
		w, sameW := spare(function(0, []int{3, 4, 5, 6, 7}[:n]...))
		calls := map[string]func() (impl.Function, bool){
			"ConvolveFunctions":      func() (impl.Function, bool) { return impl.ConvolveFunctions(f, g) },
			"a function with itself": func() (impl.Function, bool) { return impl.ConvolveFunctions(f, f) },
			"IncreasingHull":         func() (impl.Function, bool) { return impl.IncreasingHull(f) },
			"TruncateFunction":       func() (impl.Function, bool) { return impl.TruncateFunction(f, 1000) },
			"ReduceFunction":         func() (impl.Function, bool) { return impl.ReduceFunction(f, w.Values) },
			"SplitOf": func() (impl.Function, bool) {
				part, ok := impl.SplitOf(f, g, whole)
				return function(n, part), ok
			},
		}
		for name, call := range calls {
			first, ok := call()
			want := slices.Clone(first.Values)
			for s := range first.Values {
				first.Values[s] = 99
			}
			second, again := call()
			if !ok || !again || !slices.Equal(second.Values, want) {
				t.Errorf("%s: %v, %v, then %v, %v", name, want, ok, second, again)
			}
			if !sameF() || !sameG() || !sameW() {
				t.Errorf("%s: an argument was modified", name)
			}
		}
	}
}
