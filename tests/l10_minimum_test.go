package tests

import (
	"math"
	"slices"
	"testing"

	"loop.example/g03405/impl"
)

// Promise 2, its last part: the minimizers of a submodular function are a lattice.

// familiesOf has every list of sets of n elements, each in ascending order; at the
// index m it has the sets whose bits are in m.
func familiesOf(n int) [][]int {
	var out [][]int
	for m := range 1 << (1 << n) {
		out = append(out, elementsIn(m))
	}
	return out
}

// isClosed does not call the package, which it checks.
func isClosed(l []int) bool {
	for _, a := range l {
		for _, b := range l {
			if !slices.Contains(l, a|b) || !slices.Contains(l, a&b) {
				return false
			}
		}
	}
	return true
}

// ends returns what all of the sets have in common, and what they have together.
func ends(n int, sets []int) (int, int) {
	common, union := 1<<n-1, 0
	for _, s := range sets {
		common, union = common&s, union|s
	}
	return common, union
}

// functionOfLattice has a lattice of sets, which is not empty, as its minimizers: a
// set pays for each element that it lacks of the least one of the lattice which has
// another element, for elements that none of them has, and for missing ones that
// all of them have. It is a sum of directed cuts and weights, so it is submodular.
func functionOfLattice(n int, l []int) impl.Function {
	least, greatest := ends(n, l)
	return functionOf(n, func(s int) int {
		pay := -7 + 9*len(elementsIn(least&^s)) + 9*len(elementsIn(s&^greatest))
		for _, e := range elementsIn(s & greatest) {
			with := slices.DeleteFunc(slices.Clone(l), func(a int) bool { return a>>e%2 == 0 })
			common, _ := ends(n, with)
			pay += len(elementsIn(common &^ s))
		}
		return pay
	})
}

// minimizable has functions of every kind, submodular ones and others.
func minimizable() []impl.Function {
	out := slices.Concat(samples(), smallFunctions(), largeFunctions(), groundedFunctions())
	for n := range 6 {
		for _, l := range graphs(n) {
			cut, _ := impl.CutFunction(n, l)
			directed, _ := impl.DirectedCut(n, l)
			out = append(out, cut, directed)
			for _, w := range [][]int{{-1, -1, 4, 2, -3}, {-50, 3, -7, 1, 20}} {
				out = append(out, functionOf(n, func(s int) int { return 40 + directed.Values[s] + weightIn(w, s) }))
			}
		}
	}
	return out
}

// minimizersBy sorts all sets by their values, and returns the first ones.
func minimizersBy(f impl.Function) []int {
	var sets []int
	for s := range f.Values {
		sets = append(sets, s)
	}
	slices.SortStableFunc(sets, func(a int, b int) int { return f.Values[a] - f.Values[b] })
	count := 0
	for count < len(sets) && f.Values[sets[count]] == f.Values[sets[0]] {
		count++
	}
	return sets[:count]
}

// betweenBy has the sets which contain a and have no element of b, and have the
// least value of these.
func betweenBy(f impl.Function, a int, b int) []int {
	var best []int
	for s, v := range f.Values {
		if s&a != a || s&b != 0 {
			continue
		}
		if len(best) > 0 && f.Values[best[0]] > v {
			best = nil
		}
		if len(best) == 0 || f.Values[best[0]] == v {
			best = append(best, s)
		}
	}
	return best
}

func wantMinimizers(t *testing.T, f impl.Function, want int, sets []int) {
	t.Helper()
	if got, ok := impl.MinimumOf(f); !ok || got != want {
		t.Errorf("MinimumOf(%v) = %d, %v, want %d", f, got, ok, want)
	}
	got, ok := impl.MinimizersOf(f)
	if !ok || !slices.Equal(got, sets) {
		t.Errorf("MinimizersOf(%v) = %v, %v, want %v", f, got, ok, sets)
	}
}

func wantEnds(t *testing.T, f impl.Function, least int, greatest int) {
	t.Helper()
	if got, ok := impl.LeastMinimizer(f); !ok || got != least {
		t.Errorf("LeastMinimizer(%v) = %d, %v, want %d", f, got, ok, least)
	}
	if got, ok := impl.GreatestMinimizer(f); !ok || got != greatest {
		t.Errorf("GreatestMinimizer(%v) = %d, %v, want %d", f, got, ok, greatest)
	}
}

func wantBetween(t *testing.T, f impl.Function, a int, b int, want int, set int) {
	t.Helper()
	if got, s, ok := impl.MinimumBetween(f, a, b); !ok || got != want || s != set {
		t.Errorf("MinimumBetween(%v, %d, %d) = %d, %d, %v, want %d, %d", f, a, b, got, s, ok, want, set)
	}
}

func wantLattice(t *testing.T, l []int, want bool) {
	t.Helper()
	if got := impl.IsLattice(l); got != want {
		t.Errorf("IsLattice(%v) = %v", l, got)
	}
}

func TestMinimum(t *testing.T) {
	cases := []struct {
		f    impl.Function
		want int
		sets []int
	}{
		{function(0, 0), 0, []int{0}}, {function(0, 1000), 1000, []int{0}}, {function(0, -1000), -1000, []int{0}},
		{function(1, 3, -4), -4, []int{1}}, {function(1, -4, 3), -4, []int{0}}, {function(1, 3, 3), 3, []int{0, 1}},
		{function(2, 0, -1, 1, -1), -1, []int{1, 3}}, {function(2, 0, 0, 0, 1), 0, []int{0, 1, 2}}, {function(2, 5, 4, 3, 2), 2, []int{3}}, {function(2, 7, 9, 7, 9), 7, []int{0, 2}},
		// The least value so far is there again and again before a lesser one.
		{function(3, 3, 3, 2, 2, 3, 1, 2, 1), 1, []int{5, 7}}, {function(3, 2, 2, 2, 2, 2, 2, 2, 1), 1, []int{7}}, {function(3, 1, 2, 2, 1, 1, 3, 3, 3), 1, []int{0, 3, 4}},
		{function(3, 1000, 1000, 1000, 1000, 1000, 1000, 1000, 1000), 1000, []int{0, 1, 2, 3, 4, 5, 6, 7}},
	}
	for _, c := range cases {
		wantMinimizers(t, c.f, c.want, c.sets)
	}
	for _, f := range minimizable() {
		sets := minimizersBy(f)
		wantMinimizers(t, f, f.Values[sets[0]], sets)
	}
	// The order is not that in which a map happens to give its keys.
	f := functionOf(5, func(s int) int { return s % 3 / 2 })
	for range 50 {
		wantMinimizers(t, f, 0, minimizersBy(f))
	}
}

func TestValueOfTheEmptySet(t *testing.T) {
	submodular := 0
	for _, f := range minimizable() {
		with := func(v int) impl.Function {
			return function(f.Elements, append([]int{v}, f.Values[1:]...)...)
		}
		// Where it is greater than all others, equal to the least one, and less.
		least := 1000
		if f.Elements > 0 {
			others := minimizersBy(with(1001))
			least = f.Values[others[0]]
			wantMinimizers(t, with(least), least, append([]int{0}, others...))
			if least < 1000 {
				wantMinimizers(t, with(least+1), least, others)
				wantMinimizers(t, with(1000), least, others)
				wantBetween(t, with(least+1), 0, 0, least, others[0])
			}
		}
		wantBetween(t, with(least), 0, 0, least, 0)
		if least == -1000 {
			continue
		}
		low := with(least - 1)
		wantMinimizers(t, low, least-1, []int{0})
		wantBetween(t, low, 0, 0, least-1, 0)
		wantBetween(t, low, 0, len(f.Values)-1, least-1, 0)
		if obeysLattice(low, 1) {
			submodular++
			wantEnds(t, low, 0, 0)
		}
	}
	if submodular < 100 {
		t.Errorf("only %d of the functions are submodular", submodular)
	}
}

func TestLeastAndGreatestMinimizer(t *testing.T) {
	cases := []struct {
		f               impl.Function
		least, greatest int
	}{
		{function(0, 0), 0, 0}, {function(0, -9), 0, 0}, {function(1, 3, -4), 1, 1}, {function(1, 3, 3), 0, 1}, {function(1, -1, 3), 0, 0},
		{function(2, 0, -1, 1, -1), 1, 3}, {function(2, 0, 1, -1, -1), 2, 3}, {function(2, 7, 7, 7, 7), 0, 3}, {function(2, 0, -1, 1, 0), 1, 1}, {function(2, 3, 1, 1, -1), 3, 3},
		{function(3, 5, 2, 4, 1, 4, 1, 3, 0), 7, 7}, {function(3, 5, 2, 6, 3, 5, 2, 6, 3), 1, 5}, {function(3, 5, 6, 4, 5, 4, 5, 3, 4), 6, 6}, {function(3, 1, 0, 1, 0, 2, 1, 2, 1), 1, 3},
		// Two minimizers of which none contains the other: their union is one too.
		{function(3, 0, 0, 0, 0, 9, 9, 9, 9), 0, 3}, {function(3, 9, 9, 9, 9, 0, 0, 0, 0), 4, 7},
	}
	for _, c := range cases {
		wantEnds(t, c.f, c.least, c.greatest)
	}
}

func TestMinimizersAreLattice(t *testing.T) {
	submodular, crossing := 0, 0
	for _, f := range minimizable() {
		if !obeysLattice(f, 1) {
			continue
		}
		sets, ok := impl.MinimizersOf(f)
		if !ok || !isClosed(sets) || !impl.IsLattice(sets) {
			t.Fatalf("MinimizersOf(%v) = %v, %v are no lattice", f, sets, ok)
		}
		least, greatest := ends(f.Elements, sets)
		if least != sets[0] || greatest != sets[len(sets)-1] {
			t.Errorf("MinimizersOf(%v) = %v do not have their ends %d and %d", f, sets, least, greatest)
		}
		wantEnds(t, f, least, greatest)
		if f.Elements > 1 {
			submodular++
		}
		for i, a := range sets {
			if i > 0 && a&sets[i-1] != sets[i-1] {
				crossing++
				break
			}
		}
	}
	if submodular < 500 || crossing < 100 {
		t.Errorf("only %d functions are submodular, and for %d some minimizer does not contain another one", submodular, crossing)
	}
}

// Each lattice of sets is the minimizers of a submodular function, and no other
// family of sets is.
func TestLatticesAreMinimizers(t *testing.T) {
	lattices := 0
	for n := range 5 {
		for _, l := range familiesOf(n) {
			closed := isClosed(l)
			wantLattice(t, l, closed)
			switch {
			case len(l) == 0:
			case closed:
				lattices++
				f := functionOfLattice(n, l)
				wantSubmodular(t, "functionOfLattice", f)
				wantMinimizers(t, f, -7, l)
				wantEnds(t, f, l[0], l[len(l)-1])
			default:
				f := functionOf(n, func(s int) int { return 1 })
				for _, s := range l {
					f.Values[s] = 0
				}
				failsToEnd(t, f)
				if n < 4 {
					wantMinimizers(t, f, 0, l)
				}
			}
		}
	}
	if lattices < 500 {
		t.Errorf("only %d lattices", lattices)
	}
}

func TestIsLattice(t *testing.T) {
	cases := []struct {
		l    []int
		want bool
	}{
		{nil, true}, {[]int{}, true}, {[]int{0}, true}, {[]int{1023}, true}, {[]int{5}, true},
		{[]int{0, 1}, true}, {[]int{1, 2}, false}, {[]int{0, 1, 2}, false}, {[]int{1, 2, 3}, false}, {[]int{0, 1, 2, 3}, true}, {[]int{3, 0, 2, 1}, true},
		{[]int{512, 256}, false}, {[]int{512, 0, 768, 256}, true}, {[]int{1023, 0, 511, 512}, true}, {[]int{0, 511, 512}, false},
		{[]int{6, 3}, false}, {[]int{6, 3, 2}, false}, {[]int{6, 3, 7}, false}, {[]int{6, 3, 2, 7}, true}, {[]int{0, 1, 3, 7, 15, 31, 63, 127, 255, 511, 1023}, true},
		// Closed but for the last two of many sets.
		{[]int{0, 1, 2, 3, 4, 5, 6, 7, 15, 23}, false}, {[]int{0, 1, 2, 3, 4, 5, 6, 7, 15, 23, 31}, true},
	}
	for _, c := range cases {
		wantLattice(t, c.l, c.want)
	}
	for n := range 4 {
		for i, l := range familiesOf(n) {
			closed := isClosed(l)
			turned := slices.Clone(l)
			slices.Reverse(turned)
			wantLattice(t, turned, closed)
			if k := len(l); k > 0 {
				wantLattice(t, slices.Concat(l[i%k:], l[:i%k]), closed)
			}
			// The same sets of other elements.
			for _, s := range []int{7 << 7, 1 + 1<<5 + 1<<9, 1<<8 + 1<<9 + 1<<3} {
				var moved []int
				for _, a := range l {
					moved = append(moved, spread(a, s))
				}
				wantLattice(t, moved, closed)
			}
		}
	}
}

func TestIsLatticeWithTheSameSetTwice(t *testing.T) {
	wantLattice(t, []int{5, 5}, true)
	wantLattice(t, []int{0, 0}, true)
	wantLattice(t, []int{1023, 1023, 1023}, true)
	wantLattice(t, []int{1, 2, 1}, false)
	for n := range 4 {
		for _, l := range familiesOf(n) {
			closed := isClosed(l)
			wantLattice(t, append(slices.Clone(l), l...), closed)
			for i, s := range l {
				wantLattice(t, append(slices.Clone(l), s), closed)
				wantLattice(t, slices.Insert(slices.Clone(l), i, s), closed)
				// Another set is not there for it.
				twice := slices.Clone(l)
				twice[i] = l[0]
				wantLattice(t, twice, isClosed(twice))
			}
		}
	}
}

// lattice has all sets between two of 10 elements.
func lattice(least int, greatest int) []int {
	var out []int
	for s := range 1 << 10 {
		if s&least == least && s&^greatest == 0 {
			out = append(out, s)
		}
	}
	return out
}

func TestIsLatticeOfManySets(t *testing.T) {
	for _, l := range [][]int{lattice(0, 63), lattice(0, 63<<4), lattice(15, 1023), lattice(1+1<<9, 1023-1<<5-1<<2)} {
		if len(l) != 64 {
			t.Fatalf("%d sets", len(l))
		}
		wantLattice(t, l, true)
		slices.Reverse(l)
		wantLattice(t, l, true)
		for i := range l {
			less := slices.Delete(slices.Clone(l), i, i+1)
			wantLattice(t, less, isClosed(less))
			wantLattice(t, append(slices.Clone(less), less[0]), isClosed(less))
		}
		// Too many numbers, though not too many different sets.
		for _, s := range []int{l[0], l[5], l[63]} {
			wantLattice(t, append(slices.Clone(l), s), false)
			wantLattice(t, slices.Insert(slices.Clone(l), 0, s), false)
			wantLattice(t, slices.Repeat([]int{s}, 64), true)
			for _, count := range []int{65, 66, 127, 128, 129, 1024, 5000} {
				wantLattice(t, slices.Repeat([]int{s}, count), false)
			}
		}
	}
	for _, greatest := range []int{127, 255, 511, 1023} {
		wantLattice(t, lattice(0, greatest), false)
	}
	// 65 sets that are closed: those of six elements, and all elements.
	wantLattice(t, append(lattice(0, 63), 1023), false)
	wantLattice(t, append(lattice(1, 63), 1023), true)
}

func TestIsLatticeOfNoSets(t *testing.T) {
	for _, no := range append(noSets(10), 1<<10+1<<9, 3<<10, 1<<32, 1<<63-1-1023, -1024, -1025, math.MinInt+1) {
		for _, l := range [][]int{nil, {0}, {1}, {1023}, {0, 1023}, {0, 1, 2, 3}, lattice(0, 31), {no &^ 1}, {no | 1}, {no & 1023}, {0, no & 1023, no | 1023}} {
			for i := range len(l) + 1 {
				wantLattice(t, slices.Insert(slices.Clone(l), i, no), false)
			}
			wantLattice(t, append(slices.Clone(l), no, no), false)
		}
		wantLattice(t, slices.Repeat([]int{no}, 64), false)
		wantLattice(t, slices.Repeat([]int{no}, 65), false)
	}
}

func TestMinimumBetween(t *testing.T) {
	f := function(2, 0, -1, 1, -1)
	cases := []struct {
		f               impl.Function
		a, b, want, set int
	}{
		{f, 0, 0, -1, 1}, {f, 1, 0, -1, 1}, {f, 2, 0, -1, 3}, {f, 3, 0, -1, 3}, {f, 0, 1, 0, 0}, {f, 0, 2, -1, 1}, {f, 0, 3, 0, 0}, {f, 1, 2, -1, 1}, {f, 2, 1, 1, 2},
		{function(0, 0), 0, 0, 0, 0}, {function(0, -6), 0, 0, -6, 0}, {function(0, 6), 0, 0, 6, 0}, {function(1, 3, -4), 0, 0, -4, 1}, {function(1, 3, -4), 0, 1, 3, 0}, {function(1, 3, -4), 1, 0, -4, 1},
		// The least set is the least number, not the set of fewest elements.
		{function(3, 1, 1, 1, 0, 0, 1, 1, 1), 0, 0, 0, 3}, {function(3, 1, 1, 1, 0, 0, 1, 1, 1), 0, 1, 0, 4}, {function(3, 1, 1, 1, 0, 0, 1, 1, 1), 2, 0, 0, 3}, {function(3, 1, 1, 1, 0, 0, 1, 1, 1), 0, 5, 1, 0},
		// All sets have this value, and a is one of them.
		{functionOf(5, func(int) int { return 8 }), 9, 4, 8, 9}, {functionOf(5, func(int) int { return -8 }), 16, 15, -8, 16},
		{functionOf(5, func(s int) int { return 31 - s }), 9, 4, 4, 27}, {functionOf(5, func(s int) int { return 1000 - 2000*(s%2) }), 4, 1, 1000, 4},
	}
	for _, c := range cases {
		wantBetween(t, c.f, c.a, c.b, c.want, c.set)
	}
	for _, f := range minimizable() {
		for a := range f.Values {
			for b := range f.Values {
				if a&b != 0 {
					failsBetween(t, f, a, b)
					continue
				}
				best := betweenBy(f, a, b)
				wantBetween(t, f, a, b, f.Values[best[0]], best[0])
			}
		}
	}
}

// What is least between two sets is at least the minimum, and is the minimum where
// a minimizer is between them.
func TestMinimumBetweenIsAtLeastTheMinimum(t *testing.T) {
	same, greater := 0, 0
	for _, f := range minimizable() {
		minimum, ok := impl.MinimumOf(f)
		sets, found := impl.MinimizersOf(f)
		if !ok || !found {
			t.Fatalf("MinimumOf(%v) or MinimizersOf fails", f)
		}
		wantBetween(t, f, 0, 0, minimum, sets[0])
		for _, s := range sets {
			wantBetween(t, f, s, 0, minimum, s)
			wantBetween(t, f, s, len(f.Values)-1-s, minimum, s)
		}
		for a := range f.Values {
			for b := range f.Values {
				if a&b != 0 {
					continue
				}
				got, s, ok := impl.MinimumBetween(f, a, b)
				if !ok || got < minimum || s&a != a || s&b != 0 || f.Values[s] != got {
					t.Errorf("MinimumBetween(%v, %d, %d) = %d, %d, %v, but the minimum is %d", f, a, b, got, s, ok, minimum)
				}
				between := slices.ContainsFunc(sets, func(s int) bool { return s&a == a && s&b == 0 })
				if between != (got == minimum) {
					t.Errorf("MinimumBetween(%v, %d, %d) = %d, %d, but the minimizers are %v", f, a, b, got, s, sets)
				}
				if between {
					same++
				} else {
					greater++
				}
			}
		}
	}
	if same < 10000 || greater < 10000 {
		t.Errorf("only %d pairs of sets with a minimizer between them, and %d without", same, greater)
	}
}

// The best sets between two sets are a lattice too, so the one that is told is
// contained in all of them.
func TestBestBetweenAreLattice(t *testing.T) {
	for _, f := range minimizable() {
		if !obeysLattice(f, 1) {
			continue
		}
		for a := range f.Values {
			for b := range f.Values {
				if a&b != 0 {
					continue
				}
				best := betweenBy(f, a, b)
				least, _ := ends(f.Elements, best)
				wantBetween(t, f, a, b, f.Values[least], least)
				if a+b == 0 || f.Elements < 4 {
					wantLattice(t, best, true)
				}
			}
		}
	}
}

func failsToEnd(t *testing.T, f impl.Function) {
	t.Helper()
	if got, ok := impl.LeastMinimizer(f); ok || got != 0 {
		t.Errorf("LeastMinimizer(%v) = %d, %v", f, got, ok)
	}
	if got, ok := impl.GreatestMinimizer(f); ok || got != 0 {
		t.Errorf("GreatestMinimizer(%v) = %d, %v", f, got, ok)
	}
}

func failsBetween(t *testing.T, f impl.Function, a int, b int) {
	t.Helper()
	if got, s, ok := impl.MinimumBetween(f, a, b); ok || got != 0 || s != 0 {
		t.Errorf("MinimumBetween(%v, %d, %d) = %d, %d, %v", f, a, b, got, s, ok)
	}
}

func TestMinimumOfNoFunction(t *testing.T) {
	for _, f := range append(noFunctions(),
		function(0, 2000), function(1, 0, -1001), function(1, 0, 1, 1, 1), function(1, -1, -2, -3), function(2, 0, 1, 1), function(2, 0, 1, 1, 1001), function(2, -1, -1, -1001, -1), function(2, 0, 0, 0, math.MinInt), function(3, 0, 1), function(-2, 5, 5, 5, 5),
		functionOf(5, func(s int) int { return 990 + s }), functionOf(5, func(s int) int { return -970 - s }), functionOf(6, func(s int) int { return -s }),
	) {
		if got, ok := impl.MinimumOf(f); ok || got != 0 {
			t.Errorf("MinimumOf(%v) = %d, %v", f, got, ok)
		}
		if got, ok := impl.MinimizersOf(f); ok || len(got) != 0 {
			t.Errorf("MinimizersOf(%v) = %v, %v", f, got, ok)
		}
		failsToEnd(t, f)
		for a := -1; a <= len(f.Values); a++ {
			failsBetween(t, f, a, 0)
			failsBetween(t, f, 0, a)
			failsBetween(t, f, a, a)
			failsBetween(t, f, a, a^1)
		}
	}
}

// Minimizers of other functions may be a lattice or not: the ends fail for both,
// and the other functions of the chapter do not.
func TestEndsOfNotSubmodular(t *testing.T) {
	wantMinimizers(t, function(2, 0, 0, 0, 1), 0, []int{0, 1, 2})
	failsToEnd(t, function(2, 0, 0, 0, 1))
	wantMinimizers(t, function(2, 0, 1, 1, 3), 0, []int{0})
	failsToEnd(t, function(2, 0, 1, 1, 3))
	wantMinimizers(t, function(2, -3, 0, 0, 4), -3, []int{0})
	failsToEnd(t, function(2, -3, 0, 0, 4))
	lattices, others := 0, 0
	for _, f := range minimizable() {
		if obeysLattice(f, 1) {
			continue
		}
		failsToEnd(t, f)
		sets := minimizersBy(f)
		wantLattice(t, sets, isClosed(sets))
		if isClosed(sets) {
			lattices++
		} else {
			others++
		}
	}
	if lattices < 1000 || others < 1000 {
		t.Errorf("only %d functions with a lattice of minimizers, and %d others", lattices, others)
	}
}

func TestMinimumBetweenNoSets(t *testing.T) {
	for n := range 6 {
		for _, f := range []impl.Function{
			functionOf(n, func(int) int { return 0 }),
			functionOf(n, func(s int) int { return 3 - len(elementsIn(s)) }),
			functionOf(n, func(s int) int { return s*s%7 - 3 }),
		} {
			none := append(noSets(n), 1<<5, 1<<31, 1<<32, 1<<63-1-31, -32, -33, math.MinInt+1)
			for _, no := range none {
				for s := range f.Values {
					failsBetween(t, f, no, s)
					failsBetween(t, f, s, no)
				}
				for _, other := range none {
					failsBetween(t, f, no, other)
				}
			}
			for a := range f.Values {
				for b := range f.Values {
					if a&b != 0 {
						failsBetween(t, f, a, b)
					}
				}
			}
		}
	}
}

// The values after the length are unused capacity, which stays as it was too.
func TestMinimumMemory(t *testing.T) {
	for n := range 6 {
		for _, value := range []func(s int) int{
			func(int) int { return 5 },
			func(s int) int { return len(elementsIn(s &^ 5)) },
			func(s int) int { return 9 - len(elementsIn(s)) },
		} {
			f, sameF := spare(functionOf(n, value))
			// A list that is not in order must not be sorted.
			minimizers := minimizersBy(f)
			slices.Reverse(minimizers)
			l, sameL := spare(function(0, minimizers...))
			calls := map[string]func() ([]int, bool){
				"MinimumOf":         func() ([]int, bool) { v, ok := impl.MinimumOf(f); return []int{v}, ok },
				"MinimizersOf":      func() ([]int, bool) { return impl.MinimizersOf(f) },
				"LeastMinimizer":    func() ([]int, bool) { s, ok := impl.LeastMinimizer(f); return []int{s}, ok },
				"GreatestMinimizer": func() ([]int, bool) { s, ok := impl.GreatestMinimizer(f); return []int{s}, ok },
				"IsLattice":         func() ([]int, bool) { return nil, impl.IsLattice(l.Values) },
				"MinimumBetween": func() ([]int, bool) {
					v, s, ok := impl.MinimumBetween(f, 0, 1<<n-1)
					return []int{v, s}, ok
				},
			}
			keepMemory(t, calls, sameF, sameL)
		}
	}
}
