package tests

import (
	"math"
	"slices"
	"testing"

	"loop.example/g03405/impl"
)

// Promise 7, as far as chapter 7 builds it: extensions pair with gains, as
// greatly as any order allows where a function is submodular, and are convex.

// vectorsOf has vectors of n numbers: every one from -1 to 2 for up to two, from
// -1 to 1 for three, and some for up to five, equal numbers and limits among them.
func vectorsOf(n int) [][]int {
	all := weightLists(n)
	for _, x := range [][]int{{2, 2, 1, 1, 1}, {-3, 5, -3, 5, 0}, {4, 3, 2, 1, 0}, {-100, 100, 100, -100, 100}} {
		all = append(all, x[:n])
	}
	for _, x := range indexLists(min(n, 3), []int{4, 4, 4, 3, 2, 2}[n]) {
		for i := range x {
			x[i]--
		}
		all = append(all, append(x, []int{1, -1}[:n-len(x)]...))
	}
	return all
}

// noVectors has lists of n numbers of which one is out of range, each in turn.
func noVectors(n int) [][]int {
	var out [][]int
	for i := range n {
		for _, v := range []int{-1001, 1001, -2000, 2000, 1<<32 + 1, -1 << 32, 1 << 62, math.MaxInt, math.MinInt, math.MinInt + 1} {
			x := make([]int, n)
			x[i] = v
			out = append(out, x)
		}
	}
	return out
}

// noLengths has lists of zeros, each too long for a vector.
func noLengths() [][]int {
	var out [][]int
	for _, n := range []int{6, 7, 8, 62, 63, 64, 65, 5000} {
		out = append(out, make([]int, n))
	}
	return out
}

// levelSum adds up, for each step between the numbers of x, the values of the
// sets of those that reach it. It needs no order, nor the gains of elements.
func levelSum(f impl.Function, x []int) int {
	if len(x) == 0 {
		return f.Values[0]
	}
	steps := slices.Clone(x)
	slices.Sort(steps)
	sum := f.Values[0] + steps[0]*(f.Values[len(f.Values)-1]-f.Values[0])
	for i := 1; i < len(steps); i++ {
		level := 0
		for e, v := range x {
			if v >= steps[i] {
				level += 1 << e
			}
		}
		sum += (steps[i] - steps[i-1]) * (f.Values[level] - f.Values[0])
	}
	return sum
}

// orders has every order of the elements up to n.
func orders(n int) [][]int {
	out := [][]int{nil}
	for e := range n {
		var longer [][]int
		for _, order := range out {
			for i := range e + 1 {
				longer = append(longer, slices.Insert(slices.Clone(order), i, e))
			}
		}
		out = longer
	}
	return out
}

// pairingAlong is the value of the empty set and the numbers of x times the
// gains of the elements in this order.
func pairingAlong(f impl.Function, x []int, order []int) int {
	sum, s := f.Values[0], 0
	for _, e := range order {
		sum += x[e] * (f.Values[s+1<<e] - f.Values[s])
		s += 1 << e
	}
	return sum
}

// combined does not call the package, which it checks.
func combined(x []int, y []int, of func(a int, b int) int) []int {
	var out []int
	for i := range x {
		out = append(out, of(x[i], y[i]))
	}
	return out
}

func plus(a int, b int) int {
	return a + b
}

func wantExtension(t *testing.T, f impl.Function, x []int, want int) {
	t.Helper()
	if got, ok := impl.ExtensionAt(f, x); !ok || got != want {
		t.Errorf("ExtensionAt(%v, %v) = %d, %v, want %d", f, x, got, ok, want)
	}
}

func wantVector(t *testing.T, call string, got []int, ok bool, want []int) {
	t.Helper()
	if !ok || !slices.Equal(got, want) {
		t.Errorf("%s = %v, %v, want %v", call, got, ok, want)
	}
}

func TestExtensionAt(t *testing.T) {
	f := function(2, 1, 3, 2, 3)
	cases := []struct {
		f    impl.Function
		x    []int
		want int
	}{
		{f, []int{0, 0}, 1}, {f, []int{1, 0}, 3}, {f, []int{0, 1}, 2}, {f, []int{1, 1}, 3}, {f, []int{2, 5}, 8}, {f, []int{5, 2}, 11}, {f, []int{-1, -2}, -1}, {f, []int{-2, -1}, -2},
		{function(0, 0), nil, 0}, {function(0, 7), []int{}, 7}, {function(0, -1000), nil, -1000},
		{function(1, 3, -4), []int{2}, -11}, {function(1, 3, -4), []int{-2}, 17},
		{function(3, 0, 1, 2, 4, 8, 16, 32, 64), []int{1, 2, 3}, 24 + 48 + 32},
		// The gains and the numbers at their limits.
		{function(1, 1000, -1000), []int{1000}, 1000 - 2000*1000}, {function(1, -1000, 1000), []int{-1000}, -1000 - 2000*1000},
		{functionOf(5, func(s int) int { return len(elementsIn(s)) % 2 * 1000 }), []int{1000, 1000, 1000, 1000, 1000}, 1000 * 1000},
	}
	for _, c := range cases {
		wantExtension(t, c.f, c.x, c.want)
	}
	for _, f := range slices.Concat(samples(), smallFunctions(), largeFunctions()) {
		for _, x := range vectorsOf(f.Elements) {
			wantExtension(t, f, x, levelSum(f, x))
		}
	}
}

// The extension has the values of the function at its sets, and is linear as
// long as the order stays.
func TestExtensionOfSets(t *testing.T) {
	for _, f := range slices.Concat(samples(), largeFunctions(), polymatroids()) {
		for s, v := range f.Values {
			x, ok := impl.IndicatorOf(f.Elements, s)
			if !ok {
				t.Fatalf("IndicatorOf(%d, %d) fails", f.Elements, s)
			}
			wantExtension(t, f, x, v)
			for _, k := range []int{0, 2, 1000} {
				wantExtension(t, f, combined(x, x, func(a int, _ int) int { return k * a }), f.Values[0]+k*(v-f.Values[0]))
			}
		}
	}
	for n := range 6 {
		for _, w := range vectorsOf(n) {
			f, ok := impl.ModularFunction(w, -7)
			if !ok {
				continue
			}
			for _, x := range vectorsOf(n) {
				pairing, paired := impl.PairingOf(w, x)
				if !paired {
					t.Errorf("PairingOf(%v, %v) fails", w, x)
				}
				wantExtension(t, f, x, pairing-7)
			}
		}
	}
}

// No order of the elements gives more if the function is submodular, and none
// gives less if it is supermodular.
func TestExtensionsAreGreatest(t *testing.T) {
	higher, lower := 0, 0
	for _, f := range slices.Concat(samples(), smallFunctions(), largeFunctions()) {
		submodular, supermodular := obeysLattice(f, 1), obeysLattice(f, -1)
		if !submodular && !supermodular {
			continue
		}
		all := orders(f.Elements)
		for _, x := range vectorsOf(f.Elements) {
			got, ok := impl.ExtensionAt(f, x)
			for _, order := range all {
				along := pairingAlong(f, x, order)
				if !ok || submodular && along > got || supermodular && along < got {
					t.Fatalf("ExtensionAt(%v, %v) = %d, %v, but %d in the order %v", f, x, got, ok, along, order)
				}
				if along < got {
					higher++
				}
				if along > got {
					lower++
				}
			}
		}
	}
	if higher < 1000 || lower < 1000 {
		t.Errorf("only %d orders give less, and %d more", higher, lower)
	}
}

func TestEqualNumbers(t *testing.T) {
	cases := []struct{ x, want []int }{
		{nil, nil}, {[]int{}, nil}, {[]int{5}, []int{0}}, {[]int{0, 0}, []int{0, 1}}, {[]int{0, 1}, []int{1, 0}}, {[]int{1, 0}, []int{0, 1}},
		{[]int{1, 3, 1, 2}, []int{1, 3, 0, 2}}, {[]int{3, 3, 3, 3, 3}, []int{0, 1, 2, 3, 4}}, {[]int{-1, 4, -1, 4, -1}, []int{1, 3, 0, 2, 4}},
		{[]int{-1000, 1000, -1000, 1000, 0}, []int{1, 3, 4, 0, 2}},
	}
	for _, c := range cases {
		got, ok := impl.OrderFor(c.x)
		wantVector(t, "OrderFor", got, ok, c.want)
	}
	// Whichever of equal numbers comes first, the extension is the same.
	for _, f := range slices.Concat(samples(), largeFunctions()) {
		all := orders(f.Elements)
		for _, x := range vectorsOf(f.Elements) {
			for _, order := range all {
				if slices.IsSortedFunc(order, func(i int, k int) int { return x[k] - x[i] }) {
					wantExtension(t, f, x, pairingAlong(f, x, order))
				}
			}
		}
	}
}

func TestOrderFor(t *testing.T) {
	for n := range 6 {
		for _, x := range append(indexLists(n, 4), vectorsOf(n)...) {
			got, ok := impl.OrderFor(x)
			if !ok || len(got) != n {
				t.Fatalf("OrderFor(%v) = %v, %v", x, got, ok)
			}
			for p, i := range got {
				// Each index is where the others that must come before it end.
				before := 0
				for k := range x {
					if x[k] > x[i] || x[k] == x[i] && k < i {
						before++
					}
				}
				if before != p {
					t.Errorf("OrderFor(%v) = %v, but %d come before %d", x, got, before, i)
				}
			}
		}
	}
}

func TestIsConvexAt(t *testing.T) {
	cases := []struct {
		f    impl.Function
		x, y []int
		want bool
	}{
		{function(2, 0, 1, 1, 1), []int{1, 0}, []int{0, 1}, true}, {function(2, 0, 0, 0, 1), []int{1, 0}, []int{0, 1}, false},
		// The same order for both, so that the function does not matter.
		{function(2, 0, 0, 0, 1), []int{1, 0}, []int{2, 1}, true}, {function(2, 0, 0, 0, 1), []int{1, 0}, []int{1, 0}, true}, {function(2, 0, 0, 0, 1), []int{0, 0}, []int{0, 1}, true},
		// The value of the empty set counts once more for the sum.
		{function(2, 1, 2, 2, 2), []int{1, 0}, []int{0, 1}, true}, {function(2, 1, 2, 2, 3), []int{1, 0}, []int{0, 1}, true}, {function(2, 1, 2, 2, 4), []int{1, 0}, []int{0, 1}, false}, {function(2, -9, -8, -8, -6), []int{1, 0}, []int{0, 1}, false},
		{function(0, 5), nil, nil, true}, {function(0, -5), []int{}, nil, true}, {function(1, 5, -900), []int{3}, []int{-4}, true},
		{function(2, 0, 0, 0, 1), []int{100, -100}, []int{-100, 100}, false}, {function(2, 0, 0, 0, -1), []int{100, -100}, []int{-100, 100}, true}, {function(2, 0, 0, 0, 0), []int{100, 100}, []int{100, 100}, true}, {function(2, 0, 0, 0, 0), []int{-100, -100}, []int{-100, -100}, true},
	}
	for _, c := range cases {
		if got := impl.IsConvexAt(c.f, c.x, c.y); got != c.want {
			t.Errorf("IsConvexAt(%v, %v, %v) = %v", c.f, c.x, c.y, got)
		}
	}
	for _, f := range slices.Concat(samples(), smallFunctions(), largeFunctions()) {
		vectors := slices.DeleteFunc(vectorsOf(f.Elements), func(x []int) bool { return slices.ContainsFunc(x, func(v int) bool { return v < -100 || v > 100 }) })
		submodular := obeysLattice(f, 1)
		for i, x := range vectors {
			// Each one with some of the others, itself among them.
			for _, k := range []int{0, 1, 5, 7, 10, 13} {
				y := vectors[(i+k)%len(vectors)]
				want := levelSum(f, combined(x, y, plus))+f.Values[0] <= levelSum(f, x)+levelSum(f, y)
				if got := impl.IsConvexAt(f, x, y); got != want || submodular && !got {
					t.Errorf("IsConvexAt(%v, %v, %v) = %v", f, x, y, got)
				}
			}
		}
	}
}

// The extension is convex exactly if the function is submodular: two sets
// violate the one where their vectors violate the other.
func TestConvexIsSubmodular(t *testing.T) {
	for _, f := range slices.Concat(samples(), smallFunctions(), largeFunctions(), polymatroids()) {
		convex := true
		for a, v := range f.Values {
			for b, w := range f.Values {
				x, _ := impl.IndicatorOf(f.Elements, a)
				y, _ := impl.IndicatorOf(f.Elements, b)
				want := f.Values[a|b]+f.Values[a&b] <= v+w
				if got := impl.IsConvexAt(f, x, y); got != want {
					t.Errorf("IsConvexAt(%v, %v, %v) = %v", f, x, y, got)
				}
				convex = convex && want
			}
		}
		if impl.IsSubmodular(f) != convex {
			t.Errorf("%v: the extension is convex: %v", f, convex)
		}
	}
}

func TestLeastAndGreatestVector(t *testing.T) {
	got, ok := impl.LeastVector([]int{1, 5, 0}, []int{2, 3, 0})
	wantVector(t, "LeastVector", got, ok, []int{1, 3, 0})
	got, ok = impl.GreatestVector([]int{1, 5, 0}, []int{2, 3, 0})
	wantVector(t, "GreatestVector", got, ok, []int{2, 5, 0})
	for n := range 6 {
		for _, x := range vectorsOf(n) {
			for _, y := range vectorsOf(n) {
				var least, greatest []int
				for i := range x {
					both := []int{x[i], y[i]}
					slices.Sort(both)
					least, greatest = append(least, both[0]), append(greatest, both[1])
				}
				got, ok := impl.LeastVector(x, y)
				wantVector(t, "LeastVector", got, ok, least)
				got, ok = impl.GreatestVector(x, y)
				wantVector(t, "GreatestVector", got, ok, greatest)
			}
		}
	}
}

// What holds for sets, their union and their common elements, holds for vectors
// and their greatest and least one.
func TestExtensionsOnLattice(t *testing.T) {
	for _, f := range append(largeFunctions(), polymatroids()...) {
		if !obeysLattice(f, 1) {
			continue
		}
		for _, x := range weightLists(f.Elements) {
			for _, y := range weightLists(f.Elements) {
				least, _ := impl.LeastVector(x, y)
				greatest, _ := impl.GreatestVector(x, y)
				sum := 0
				for i, v := range [][]int{x, y, least, greatest} {
					n, ok := impl.ExtensionAt(f, v)
					if !ok {
						t.Errorf("ExtensionAt(%v, %v) fails", f, v)
					}
					sum += []int{1, 1, -1, -1}[i] * n
				}
				if sum < 0 {
					t.Errorf("%v: %v and %v have a smaller sum than %v and %v", f, x, y, least, greatest)
				}
			}
		}
	}
}

func TestIndicatorOf(t *testing.T) {
	for n := range 6 {
		for s := range 1 << n {
			var want []int
			for e := range n {
				v := 0
				if isIn(s, e) {
					v = 1
				}
				want = append(want, v)
			}
			got, ok := impl.IndicatorOf(n, s)
			wantVector(t, "IndicatorOf", got, ok, want)
		}
	}
}

func TestIndicatorOfInvalid(t *testing.T) {
	fails := func(n int, s int) {
		t.Helper()
		if got, ok := impl.IndicatorOf(n, s); ok || len(got) != 0 {
			t.Errorf("IndicatorOf(%d, %d) = %v, %v", n, s, got, ok)
		}
	}
	for _, n := range []int{-1, -2, 6, 7, 10, 62, 63, 64, 65, 1 << 32, math.MaxInt, math.MinInt} {
		for _, s := range []int{0, 1, 5, 31, -1, math.MaxInt, math.MinInt} {
			fails(n, s)
		}
	}
	for n := range 6 {
		for _, s := range noSets(n) {
			fails(n, s)
		}
	}
}

func TestPairingOf(t *testing.T) {
	cases := []struct {
		x, y []int
		want int
	}{
		{nil, nil, 0}, {nil, []int{}, 0}, {[]int{3}, []int{-4}, -12}, {[]int{1, 5}, []int{2, -3}, -13}, {[]int{1, 10, 100}, []int{2, 3, 4}, 432}, {[]int{0, 1, 0, 1, 0}, []int{1, 0, 1, 0, 1}, 0},
		{[]int{1000, 1000, 1000, 1000, 1000}, []int{1000, 1000, 1000, 1000, 1000}, 5000000}, {[]int{1000, -1000, 1000, -1000, 1000}, []int{-1000, 1000, -1000, 1000, -1000}, -5000000},
	}
	for _, c := range cases {
		if got, ok := impl.PairingOf(c.x, c.y); !ok || got != c.want {
			t.Errorf("PairingOf(%v, %v) = %d, %v, want %d", c.x, c.y, got, ok, c.want)
		}
	}
	for n := range 6 {
		for _, x := range vectorsOf(n) {
			for _, y := range vectorsOf(n) {
				want := 0
				for _, v := range combined(x, y, func(a int, b int) int { return a * b }) {
					want += v
				}
				if got, ok := impl.PairingOf(x, y); !ok || got != want {
					t.Errorf("PairingOf(%v, %v) = %d, %v, want %d", x, y, got, ok, want)
				}
			}
		}
	}
}

func failsToExtend(t *testing.T, f impl.Function, x []int) {
	t.Helper()
	if got, ok := impl.ExtensionAt(f, x); ok || got != 0 {
		t.Errorf("ExtensionAt(%v, %v) = %d, %v", f, x, got, ok)
	}
}

// failsToPair checks both orders of the arguments.
func failsToPair(t *testing.T, x []int, y []int) {
	t.Helper()
	for _, p := range [][2][]int{{x, y}, {y, x}} {
		if got, ok := impl.LeastVector(p[0], p[1]); ok || len(got) != 0 {
			t.Errorf("LeastVector(%v, %v) = %v, %v", p[0], p[1], got, ok)
		}
		if got, ok := impl.GreatestVector(p[0], p[1]); ok || len(got) != 0 {
			t.Errorf("GreatestVector(%v, %v) = %v, %v", p[0], p[1], got, ok)
		}
		if got, ok := impl.PairingOf(p[0], p[1]); ok || got != 0 {
			t.Errorf("PairingOf(%v, %v) = %d, %v", p[0], p[1], got, ok)
		}
	}
}

// isNeverConvex checks both orders of the vectors.
func isNeverConvex(t *testing.T, f impl.Function, x []int, y []int) {
	t.Helper()
	if impl.IsConvexAt(f, x, y) || impl.IsConvexAt(f, y, x) {
		t.Errorf("IsConvexAt(%v, %v, %v) is true in one order", f, x, y)
	}
}

func TestNoVectors(t *testing.T) {
	for n := range 6 {
		zero := functionOf(n, func(int) int { return 0 })
		for _, x := range append(noVectors(n), noLengths()...) {
			if got, ok := impl.OrderFor(x); ok || len(got) != 0 {
				t.Errorf("OrderFor(%v) = %v, %v", x, got, ok)
			}
			failsToExtend(t, zero, x)
			// The partner has as many numbers, and they are in range.
			failsToPair(t, x, make([]int, len(x)))
			failsToPair(t, x, x)
			isNeverConvex(t, zero, x, make([]int, len(x)))
			isNeverConvex(t, zero, x, x)
		}
	}
}

func TestLengthsThatDiffer(t *testing.T) {
	for n := range 6 {
		f := functionOf(n, func(s int) int { return len(elementsIn(s)) })
		for m := range 7 {
			if m == n {
				continue
			}
			x, y := make([]int, n), make([]int, m)
			failsToPair(t, x, y)
			failsToExtend(t, f, y)
			isNeverConvex(t, f, x, y)
			isNeverConvex(t, f, y, y)
		}
	}
}

func TestExtensionsInvalid(t *testing.T) {
	for _, f := range append(noFunctions(), function(1, 0, 2000), function(2, 0, 1001, 1001, 1001), function(1, 2000, 2000), function(0, 2000)) {
		for n := range 7 {
			failsToExtend(t, f, make([]int, n))
			isNeverConvex(t, f, make([]int, n), make([]int, n))
		}
	}
}

func TestConvexLimits(t *testing.T) {
	for n := 1; n <= 5; n++ {
		// A modular function, whose extension is linear: only a limit can fail.
		f := functionOf(n, func(s int) int { return 3*s - 4 })
		for i := range n {
			for _, v := range []int{-102, -101, -100, -99, 99, 100, 101, 102, -1000, 1000, -1001, 1001, 1<<32 + 1, math.MaxInt, math.MinInt, math.MinInt + 101} {
				x := make([]int, n)
				x[i] = v
				opposite := combined(x, x, func(a int, _ int) int { return -a })
				for _, y := range [][]int{make([]int, n), x, opposite} {
					if v >= -100 && v <= 100 {
						if !impl.IsConvexAt(f, x, y) || !impl.IsConvexAt(f, y, x) {
							t.Errorf("IsConvexAt(%v, %v, %v) is false in one order", f, x, y)
						}
					} else {
						isNeverConvex(t, f, x, y)
					}
				}
			}
		}
	}
}

// The values after the length are unused capacity, which stays as it was too.
func TestExtensionMemory(t *testing.T) {
	for n := range 6 {
		f, sameF := spare(functionOf(n, func(s int) int { return 2 * len(elementsIn(s)) }))
		x, sameX := spare(function(0, []int{3, 1, 4, 1, 5}[:n]...))
		y, sameY := spare(function(0, []int{2, 7, 1, 8, 2}[:n]...))
		calls := map[string]func() ([]int, bool){
			"OrderFor":            func() ([]int, bool) { return impl.OrderFor(x.Values) },
			"LeastVector":         func() ([]int, bool) { return impl.LeastVector(x.Values, y.Values) },
			"LeastVector of x":    func() ([]int, bool) { return impl.LeastVector(x.Values, x.Values) },
			"GreatestVector":      func() ([]int, bool) { return impl.GreatestVector(x.Values, y.Values) },
			"GreatestVector of x": func() ([]int, bool) { return impl.GreatestVector(x.Values, x.Values) },
			"IndicatorOf":         func() ([]int, bool) { return impl.IndicatorOf(n, 1<<n-1) },
			"IsConvexAt":          func() ([]int, bool) { return nil, impl.IsConvexAt(f, x.Values, y.Values) },
			"ExtensionAt": func() ([]int, bool) {
				v, ok := impl.ExtensionAt(f, x.Values)
				return []int{v}, ok
			},
			"PairingOf": func() ([]int, bool) {
				v, ok := impl.PairingOf(x.Values, y.Values)
				return []int{v}, ok
			},
		}
		keepMemory(t, calls, sameF, sameX, sameY)
	}
}
