package tests

import (
	"math"
	"slices"
	"testing"

	"loop.example/g03405/impl"
)

// Promise 2, as far as chapter 3 builds it: submodular functions are told from
// the others, and a violation is shown.

// smallFunctions has every function of up to one element with values from -1 to
// 2, of two elements with values from -2 to 2, and of three with values from -1 to 1.
func smallFunctions() []impl.Function {
	var out []impl.Function
	for n, values := range [][]int{{-1, 0, 1, 2}, {-1, 0, 1, 2}, {-2, -1, 0, 1, 2}, {-1, 0, 1}} {
		list := []impl.Function{{Elements: n}}
		for range 1 << n {
			var longer []impl.Function
			for _, f := range list {
				for _, v := range values {
					longer = append(longer, function(n, append(slices.Clone(f.Values), v)...))
				}
			}
			list = longer
		}
		out = append(out, list...)
	}
	return out
}

// largeFunctions has submodular and supermodular functions of four and five
// elements, and every function that differs from one of them in one value.
func largeFunctions() []impl.Function {
	var out []impl.Function
	for n := 4; n <= 5; n++ {
		shape := func(value func(size int, s int) int) {
			f := impl.Function{Elements: n}
			for s := range 1 << n {
				f.Values = append(f.Values, value(len(elementsIn(s)), s))
			}
			out = append(out, f)
			for s := range f.Values {
				for _, d := range []int{-1, 1, 300} {
					g := function(n, slices.Clone(f.Values)...)
					g.Values[s] += d
					out = append(out, g)
				}
			}
		}
		shape(func(size int, s int) int { return min(size, 2) })
		shape(func(size int, s int) int { return size * size })
		shape(func(size int, s int) int { return size * (n - size) })
		shape(func(size int, s int) int { return 3*s - 40 })
	}
	return out
}

// elementsIn does not call the package, which it checks.
func elementsIn(s int) []int {
	var out []int
	for e := 0; 1<<e <= s; e++ {
		if s>>e%2 == 1 {
			out = append(out, e)
		}
	}
	return out
}

// obeysLattice compares any two sets with what they have in common and what
// they have together: another definition of the same functions.
func obeysLattice(f impl.Function, sign int) bool {
	for a := range f.Values {
		for b := range f.Values {
			if sign*(f.Values[a]+f.Values[b]) < sign*(f.Values[a|b]+f.Values[a&b]) {
				return false
			}
		}
	}
	return true
}

// violations has all of them, the least one first.
func violations(f impl.Function) [][]int {
	var out [][]int
	for k := range f.Elements {
		for i := range k {
			for s, v := range f.Values {
				a, b := s+1<<i, s+1<<k
				if s>>i%2 == 0 && s>>k%2 == 0 && f.Values[a]+f.Values[b] < f.Values[a+1<<k]+v {
					out = append(out, []int{s, i, k})
				}
			}
		}
	}
	slices.SortFunc(out, slices.Compare)
	return out
}

func TestIsSubmodular(t *testing.T) {
	cases := []struct {
		f    impl.Function
		want bool
	}{
		{function(0, 5), true}, {function(0, -1000), true},
		{function(1, 0, 1), true}, {function(1, 1000, -1000), true}, {function(1, -1000, 1000), true},
		{function(2, 0, 1, 1, 1), true}, {function(2, 0, 1, 1, 2), true}, {function(2, 0, 0, 0, 1), false},
		{function(2, 1000, 1000, 1000, 1000), true}, {function(2, -1000, 1000, 1000, -1000), true}, {function(2, 1000, -1000, -1000, 1000), false},
		{function(3, 0, 1, 1, 2, 1, 2, 2, 4), false}, {function(3, 0, 1, 1, 2, 1, 2, 2, 3), true},
	}
	for _, c := range cases {
		if got := impl.IsSubmodular(c.f); got != c.want {
			t.Errorf("IsSubmodular(%v) = %v", c.f, got)
		}
	}
	count := 0
	for _, f := range slices.Concat(samples(), smallFunctions(), largeFunctions()) {
		want := obeysLattice(f, 1)
		if got := impl.IsSubmodular(f); got != want {
			t.Errorf("IsSubmodular(%v) = %v", f, got)
		}
		if want && f.Elements > 1 {
			count++
		}
	}
	if count < 100 {
		t.Errorf("only %d of the functions are submodular", count)
	}
}

func TestViolationOf(t *testing.T) {
	cases := []struct {
		f    impl.Function
		want []int
	}{
		{function(2, 0, 0, 0, 1), []int{0, 0, 1}},
		{function(3, 0, 1, 1, 2, 1, 2, 2, 4), []int{1, 1, 2}},
		// With the set first, one of elements 1 and 2 goes before one of 0 and 1.
		{function(3, 0, 0, 0, 0, 0, 0, 1, 5), []int{0, 1, 2}},
		{function(3, 0, 0, 0, 0, 0, 1, 1, 0), []int{0, 0, 2}},
		{function(3, 0, 0, 0, 0, 0, 0, 0, 1), []int{1, 1, 2}},
		{function(3, 0, 0, 0, 0, 0, -1, 1, 1), []int{0, 1, 2}},
	}
	for _, c := range cases {
		if got, ok := impl.ViolationOf(c.f); !ok || !slices.Equal(got, c.want) {
			t.Errorf("ViolationOf(%v) = %v, %v, want %v", c.f, got, ok, c.want)
		}
	}
	for _, f := range slices.Concat(samples(), smallFunctions(), largeFunctions()) {
		var want []int
		if all := violations(f); len(all) > 0 {
			want = all[0]
		}
		if got, ok := impl.ViolationOf(f); ok != (want != nil) || !slices.Equal(got, want) {
			t.Errorf("ViolationOf(%v) = %v, %v, want %v", f, got, ok, want)
		}
	}
}

func TestIsIncreasing(t *testing.T) {
	cases := []struct {
		f    impl.Function
		want bool
	}{
		{function(0, -4), true}, {function(1, 0, 0), true}, {function(1, -1000, 1000), true}, {function(1, 0, -1), false}, {function(1, 1000, -1000), false},
		{function(2, 0, 1, 1, 1), true}, {function(2, 0, 1, 1, 0), false}, {function(2, 0, 2, 1, 1), false}, {function(2, 0, 1, 2, 1), false},
		{function(2, 3, 4, 2, 4), false}, {function(2, 3, 2, 4, 4), false}, {function(2, -3, -3, -3, -3), true},
	}
	for _, c := range cases {
		if got := impl.IsIncreasing(c.f); got != c.want {
			t.Errorf("IsIncreasing(%v) = %v", c.f, got)
		}
	}
	for _, f := range slices.Concat(samples(), smallFunctions(), largeFunctions()) {
		want := true
		for a, v := range f.Values {
			for b, w := range f.Values {
				if a&b == a && v > w {
					want = false
				}
			}
		}
		if got := impl.IsIncreasing(f); got != want {
			t.Errorf("IsIncreasing(%v) = %v", f, got)
		}
	}
}

func TestIsSupermodularAndModular(t *testing.T) {
	cases := []struct {
		f              impl.Function
		super, modular bool
	}{
		{function(0, 5), true, true}, {function(1, 3, -4), true, true}, {function(1, -1000, 1000), true, true},
		{function(2, 0, 0, 0, 1), true, false}, {function(2, 0, 1, 1, 1), false, false}, {function(2, 1, 2, 0, 1), true, true},
		{function(2, 1000, -1000, -1000, 1000), true, false}, {function(2, -1000, 0, 0, 1000), true, true},
	}
	for _, c := range cases {
		if super, modular := impl.IsSupermodular(c.f), impl.IsModular(c.f); super != c.super || modular != c.modular {
			t.Errorf("IsSupermodular and IsModular(%v) = %v, %v", c.f, super, modular)
		}
	}
	for _, f := range slices.Concat(samples(), smallFunctions(), largeFunctions()) {
		super, modular := obeysLattice(f, -1), obeysLattice(f, 1) && obeysLattice(f, -1)
		if got := impl.IsSupermodular(f); got != super {
			t.Errorf("IsSupermodular(%v) = %v", f, got)
		}
		if got := impl.IsModular(f); got != modular {
			t.Errorf("IsModular(%v) = %v", f, got)
		}
	}
}

func TestIsGroundedAndPolymatroid(t *testing.T) {
	cases := []struct {
		f                     impl.Function
		grounded, polymatroid bool
	}{
		{function(0, 0), true, true}, {function(0, 1), false, false}, {function(0, -1), false, false},
		{function(1, 0, 1), true, true}, {function(1, 0, 0), true, true}, {function(1, 0, -1), true, false}, {function(1, 1, 1), false, false}, {function(1, -1, 1), false, false},
		{function(2, 0, 2, 1, 2), true, true}, {function(2, 0, 1, 1, 0), true, false}, {function(2, 0, 0, 0, 1), true, false}, {function(2, 1, 1, 1, 1), false, false},
		{function(2, 0, 1000, 1000, 1000), true, true},
	}
	for _, c := range cases {
		if grounded, polymatroid := impl.IsGrounded(c.f), impl.IsPolymatroid(c.f); grounded != c.grounded || polymatroid != c.polymatroid {
			t.Errorf("IsGrounded and IsPolymatroid(%v) = %v, %v", c.f, grounded, polymatroid)
		}
	}
	for _, f := range slices.Concat(samples(), smallFunctions(), largeFunctions()) {
		grounded := f.Values[0] == 0
		polymatroid := grounded && obeysLattice(f, 1)
		for a := range f.Values {
			for b := range f.Values {
				polymatroid = polymatroid && (a&b != a || f.Values[a] <= f.Values[b])
			}
		}
		if got := impl.IsGrounded(f); got != grounded {
			t.Errorf("IsGrounded(%v) = %v", f, got)
		}
		if got := impl.IsPolymatroid(f); got != polymatroid {
			t.Errorf("IsPolymatroid(%v) = %v", f, got)
		}
	}
}

// What is no function is none of the kinds, and has no violation.
func TestKindsInvalid(t *testing.T) {
	kinds := map[string]func(impl.Function) bool{
		"IsSubmodular": impl.IsSubmodular, "IsIncreasing": impl.IsIncreasing, "IsModular": impl.IsModular,
		"IsSupermodular": impl.IsSupermodular, "IsGrounded": impl.IsGrounded, "IsPolymatroid": impl.IsPolymatroid,
	}
	bad := append(noFunctions(), function(2, 0, 0, 0, 2000), function(2, 0, 1001, 1001, 1001), function(2, 0, 0, -1001, 1), function(2, 0, 0, math.MinInt, 1), function(3, 0, 0, 0, 1), function(1, 0, 0, 0, 1))
	for _, f := range bad {
		for name, is := range kinds {
			if is(f) {
				t.Errorf("%s(%v) is true", name, f)
			}
		}
		if got, ok := impl.ViolationOf(f); ok || len(got) != 0 {
			t.Errorf("ViolationOf(%v) = %v, %v", f, got, ok)
		}
	}
}

func TestModularFunction(t *testing.T) {
	got, ok := impl.ModularFunction([]int{2, -1}, 3)
	wantFunction(t, "the weights 2 and -1 from 3 on", got, ok, function(2, 3, 5, 2, 4))
	got, ok = impl.ModularFunction(nil, 3)
	wantFunction(t, "no weights from 3 on", got, ok, function(0, 3))
	got, ok = impl.ModularFunction([]int{}, -1000)
	wantFunction(t, "no weights from -1000 on", got, ok, function(0, -1000))
	got, ok = impl.ModularFunction([]int{-7}, 0)
	wantFunction(t, "one weight", got, ok, function(1, 0, -7))
	all := [][]int{nil, {0}, {5}, {1000}, {-1000}, {1000, -1000}, {3, 4, 5}, {-3, 0, 900}, {250, 250, 250, 250}, {1, 2, 4, 8, 16}, {-200, -200, -200, -200, -200}, {999, 1, -1, -999, 0}}
	for _, w := range all {
		for _, c := range []int{0, 1, -1, 7, 500, -500, 999, -999, 1000, -1000} {
			want := impl.Function{Elements: len(w)}
			for s := range 1 << len(w) {
				sum := c
				for _, e := range elementsIn(s) {
					sum += w[e]
				}
				want.Values = append(want.Values, sum)
			}
			got, ok := impl.ModularFunction(w, c)
			wantFunction(t, "ModularFunction", got, ok, want)
			if ok && !impl.IsModular(got) {
				t.Errorf("ModularFunction(%v, %d) = %v is not modular", w, c, got)
			}
		}
	}
}

func TestModularFunctionInvalid(t *testing.T) {
	cases := []struct {
		w []int
		c int
	}{
		{make([]int, 6), 0}, {make([]int, 62), 0}, {make([]int, 63), 0}, {make([]int, 64), 0}, {make([]int, 65), 1}, {[]int{1, 1, 1, 1, 1, 1}, 1},
		{nil, 1001}, {nil, -1001}, {nil, math.MaxInt}, {nil, math.MinInt},
		{[]int{-1}, 1001}, {[]int{1}, -1001},
		// The sums are in range, a weight is not.
		{[]int{1001}, -1}, {[]int{-1001}, 1}, {[]int{0, 1001}, -1}, {[]int{1500, -1500}, -700}, {[]int{-1001, 0}, 1000}, {[]int{2000}, -1000}, {[]int{-2000}, 1000},
		// The weights are in range, a sum is not.
		{[]int{1000}, 1}, {[]int{-1000}, -1}, {[]int{1}, 1000}, {[]int{-1}, -1000}, {[]int{501, 500}, 0}, {[]int{-501, -500}, 0}, {[]int{501, 500, -999}, 0}, {[]int{1000, 1000, 1000, 1000, 1000}, 1000},
		{[]int{math.MaxInt}, 0}, {[]int{math.MinInt}, 0}, {[]int{math.MinInt, math.MinInt}, 0}, {[]int{1 << 62, 1 << 62, 1 << 62, 1 << 62}, 0}, {[]int{math.MaxInt, 1}, math.MinInt},
	}
	for _, c := range cases {
		if got, ok := impl.ModularFunction(c.w, c.c); ok || !isZero(got) {
			t.Errorf("ModularFunction(%v, %d) = %v, %v", c.w, c.c, got, ok)
		}
	}
}

func TestCheckMemory(t *testing.T) {
	f, same := spare(function(3, 0, 1, 1, 2, 1, 2, 2, 4))
	impl.IsSubmodular(f)
	impl.IsSupermodular(f)
	impl.IsModular(f)
	impl.IsIncreasing(f)
	impl.IsGrounded(f)
	impl.IsPolymatroid(f)
	violation, _ := impl.ViolationOf(f)
	if !same() {
		t.Error("a function was modified")
	}
	f.Values[3], violation[0] = 1, 9
	if again, ok := impl.ViolationOf(f); !ok || !slices.Equal(again, []int{1, 1, 2}) || violation[0] != 9 {
		t.Errorf("ViolationOf(%v) = %v, %v after a change of its result", f, again, ok)
	}
	for n := range 6 {
		weights, same := spare(function(n, []int{3, 4, 5, 6, 7}[:n]...))
		g, _ := impl.ModularFunction(weights.Values, 2)
		want := impl.FormatFunction(g)
		if !same() {
			t.Errorf("%d weights were modified", n)
		}
		for i := range weights.Values {
			weights.Values[i] = 50
		}
		h, _ := impl.ModularFunction([]int{3, 4, 5, 6, 7}[:n], 2)
		for s := range h.Values {
			h.Values[s] = 60
		}
		if got := impl.FormatFunction(g); got != want || g.Values[0] != 2 {
			t.Errorf("%d weights: the function changed to %v", n, got)
		}
	}
}
