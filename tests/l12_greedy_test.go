package tests

import (
	"cmp"
	"math"
	"slices"
	"testing"

	"loop.example/g03405/impl"
)

// Promise 9, its first part: greed reaches its part of the best value of increasing
// submodular functions.

// maximizable has functions of every kind, and some whose values go up and down, with
// and without equal ones.
func maximizable() []impl.Function {
	out := minimizable()
	for n := 2; n <= 5; n++ {
		for _, m := range []int{2, 3, 7, 31, 1999} {
			for a := range 8 {
				out = append(out, functionOf(n, func(s int) int { return (s*s*(5*a+3)+s*(7*a+1)+a)%m - m/2 }))
			}
		}
		out = append(out, grayFunction(n))
	}
	return out
}

// grayFunction gives each set its place in a list of all sets in which one element
// changes from each set to the next one.
func grayFunction(n int) impl.Function {
	f := functionOf(n, func(int) int { return 0 })
	for i := range f.Values {
		f.Values[i^i>>1] = i
	}
	return f
}

// sharedCover has q elements of which no two cover the same, and before them one more
// for each share, which covers this much of what each of the q covers, apart from
// other shares; what is in no share is the own part of each of the q. Greed begins
// with the shares where they are large.
func sharedCover(q int, own int, shares ...int) impl.Function {
	return functionOf(len(shares)+q, func(s int) int {
		sum := own * len(elementsIn(s>>len(shares)))
		for i, share := range shares {
			if isIn(s, i) {
				sum += share * q
			} else {
				sum += share * len(elementsIn(s>>len(shares)))
			}
		}
		return sum
	})
}

// Of these, greed of two and of three elements gets no more than its part.
func tightForTwo() impl.Function {
	return sharedCover(2, 1, 1)
}

func tightForThree() impl.Function {
	return sharedCover(3, 4, 3, 2)
}

// increasing has polymatroids: those of the other lists, every one of three elements
// with values up to 4, covers, shared ones, and weights up to a limit.
func increasing() []impl.Function {
	out := append(polymatroids(), tightForTwo(), tightForThree())
	for _, v := range indexLists(7, 5) {
		if f := function(3, append([]int{0}, v...)...); isPolymatroid(f) {
			out = append(out, f)
		}
	}
	for n := 2; n <= 5; n++ {
		for a := range 40 {
			var l []impl.Block
			for i := range 20 {
				l = append(l, impl.Block{Set: (i*(2*a+3) + a) % (1 << n), Weight: (i*i*(a+2) + 7*a) % 21 * ((i + a) % 3 % 2)})
			}
			cover, _ := impl.CoverFunction(n, l)
			w := []int{3 + a%5, 2 + a%4, 1 + a%7, 4 + a%3, 2 + a%2}
			out = append(out, cover,
				functionOf(n, func(s int) int { return min(weightIn(w, s), 4+a%9) }),
				functionOf(n, func(s int) int { return cover.Values[s] + min(weightIn(w, s), 7)*20 }))
		}
		for first := range n - 1 {
			for _, shares := range indexLists(first, 5) {
				for own := range 6 {
					out = append(out, sharedCover(n-first, own, shares...))
				}
			}
		}
	}
	return out
}

// bestBy sorts the sets of at most k elements, and returns the first one.
func bestBy(f impl.Function, k int) (int, int) {
	var sets []int
	for s := range f.Values {
		if len(elementsIn(s)) <= k {
			sets = append(sets, s)
		}
	}
	slices.SortFunc(sets, func(a int, b int) int { return cmp.Or(cmp.Compare(f.Values[b], f.Values[a]), cmp.Compare(a, b)) })
	return f.Values[sets[0]], sets[0]
}

// greedyBy does not call the package, which it checks.
func greedyBy(f impl.Function, k int) ([]int, int) {
	var order []int
	s := 0
	for range k {
		next := -1
		for e := f.Elements - 1; e >= 0; e-- {
			if !isIn(s, e) && (next < 0 || f.Values[s+1<<e] >= f.Values[s+1<<next]) {
				next = e
			}
		}
		order = append(order, next)
		s += 1 << next
	}
	return order, f.Values[s]
}

// reachesBy tells of both values whether the lesser one is its part of the greater
// one.
func reachesBy(best int, reached int, k int) bool {
	whole, rest := 1, 1
	for range k {
		whole, rest = whole*k, rest*(k-1)
	}
	return best*(whole-rest) <= reached*whole
}

// doubleBy decides for each element by the values of all four sets.
func doubleBy(f impl.Function) int {
	first, second := 0, len(f.Values)-1
	for e := range f.Elements {
		if f.Values[first+1<<e]+f.Values[second] >= f.Values[second-1<<e]+f.Values[first] {
			first += 1 << e
		} else {
			second -= 1 << e
		}
	}
	return first
}

// stepsBy has the elements whose change makes the value greater.
func stepsBy(f impl.Function, s int) []int {
	var steps []int
	for e := range f.Elements {
		other := s + 1<<e
		if isIn(s, e) {
			other = s - 1<<e
		}
		if f.Values[other] > f.Values[s] {
			steps = append(steps, e)
		}
	}
	return steps
}

func climbBy(f impl.Function, s int) int {
	if steps := stepsBy(f, s); len(steps) > 0 {
		return climbBy(f, s^1<<steps[0])
	}
	return s
}

func wantBestOfSize(t *testing.T, f impl.Function, k int, want int, set int) {
	t.Helper()
	if got, s, ok := impl.BestOfSize(f, k); !ok || got != want || s != set {
		t.Errorf("BestOfSize(%v, %d) = %d, %d, %v, want %d, %d", f, k, got, s, ok, want, set)
	}
}

func wantGreedy(t *testing.T, f impl.Function, k int, want []int, value int) {
	t.Helper()
	if got, v, ok := impl.GreedyOfSize(f, k); !ok || v != value || !slices.Equal(got, want) {
		t.Errorf("GreedyOfSize(%v, %d) = %v, %d, %v, want %v, %d", f, k, got, v, ok, want, value)
	}
}

func wantReaches(t *testing.T, f impl.Function, k int, want bool) {
	t.Helper()
	if got := impl.GreedyReaches(f, k); got != want {
		t.Errorf("GreedyReaches(%v, %d) = %v", f, k, got)
	}
}

func wantGreatest(t *testing.T, f impl.Function, want int, set int) {
	t.Helper()
	if got, s, ok := impl.MaximumOf(f); !ok || got != want || s != set {
		t.Errorf("MaximumOf(%v) = %d, %d, %v, want %d, %d", f, got, s, ok, want, set)
	}
}

func wantDouble(t *testing.T, f impl.Function, want int) {
	t.Helper()
	if got, ok := impl.DoubleGreedy(f); !ok || got != want {
		t.Errorf("DoubleGreedy(%v) = %d, %v, want %d", f, got, ok, want)
	}
}

func wantClimb(t *testing.T, f impl.Function, s int, want int) {
	t.Helper()
	if got, ok := impl.LocalMaximum(f, s); !ok || got != want {
		t.Errorf("LocalMaximum(%v, %d) = %d, %v, want %d", f, s, got, ok, want)
	}
}

func wantIsLocal(t *testing.T, f impl.Function, s int, want bool) {
	t.Helper()
	if got := impl.IsLocalMaximum(f, s); got != want {
		t.Errorf("IsLocalMaximum(%v, %d) = %v", f, s, got)
	}
}

func TestBestOfSize(t *testing.T) {
	f := function(3, 0, 3, 2, 4, 2, 4, 4, 5)
	cases := []struct {
		f            impl.Function
		k, want, set int
	}{
		{f, 0, 0, 0}, {f, 1, 3, 1}, {f, 2, 4, 3}, {f, 3, 5, 7},
		{function(0, 0), 0, 0, 0}, {function(0, -1000), 0, -1000, 0}, {function(1, 3, -4), 1, 3, 0}, {function(1, 3, 4), 1, 4, 1}, {function(1, 3, 3), 1, 3, 0},
		// At most k elements: fewer may be better.
		{function(2, 0, -1, 1, -1), 2, 1, 2}, {function(2, -5, -6, -7, -8), 2, -5, 0}, {function(3, 0, 1, 1, 9, 1, 9, 9, 2), 3, 9, 3},
		// The least set is the least number, not the set of fewest elements.
		{function(3, 0, 0, 0, 7, 7, 0, 0, 0), 1, 7, 4}, {function(3, 0, 0, 0, 7, 7, 0, 0, 0), 2, 7, 3}, {function(3, 0, 0, 0, 0, 7, 7, 7, 7), 3, 7, 4}, {function(3, 0, 0, 0, 0, 0, 8, 8, 8), 3, 8, 5},
		{function(4, 0, 0, 0, 0, 0, 0, 0, 6, 6, 6, 6, 6, 6, 6, 6, 6), 2, 6, 8}, {function(4, 0, 0, 0, 0, 0, 0, 0, 6, 6, 6, 6, 6, 6, 6, 6, 6), 3, 6, 7},
		{functionOf(5, func(s int) int { return s }), 1, 16, 16}, {functionOf(5, func(s int) int { return s }), 3, 28, 28}, {functionOf(5, func(s int) int { return s - 1000 }), 5, -969, 31},
		{functionOf(5, func(int) int { return -1000 }), 4, -1000, 0}, {function(1, -1000, 1000), 1, 1000, 1}, {function(1, -1000, 1000), 0, -1000, 0},
	}
	for _, c := range cases {
		wantBestOfSize(t, c.f, c.k, c.want, c.set)
	}
	for _, f := range maximizable() {
		for k := range f.Elements + 1 {
			want, set := bestBy(f, k)
			wantBestOfSize(t, f, k, want, set)
		}
	}
}

// No set of at most k elements has a value greater than that of BestOfSize, and no
// lesser one has this value; likewise for all sets and MaximumOf.
func TestNoSetIsBetter(t *testing.T) {
	fewer, same := 0, 0
	check := func(f impl.Function, k int, best int, set int, ok bool) {
		if !ok || len(elementsIn(set)) > k || impl.ValueOf(f, set) != best {
			t.Fatalf("the best set of %v of at most %d elements: %d, %d, %v", f, k, best, set, ok)
		}
		for s, v := range f.Values {
			if len(elementsIn(s)) <= k && (v > best || v == best && s < set) {
				t.Errorf("%v: the set %d is better than %d", f, s, set)
			}
		}
		if len(elementsIn(set)) < k {
			fewer++
		} else {
			same++
		}
	}
	for _, f := range maximizable() {
		for k := range f.Elements + 1 {
			best, set, ok := impl.BestOfSize(f, k)
			check(f, k, best, set, ok)
		}
		best, set, ok := impl.MaximumOf(f)
		check(f, f.Elements, best, set, ok)
	}
	if fewer < 10000 || same < 10000 {
		t.Errorf("only %d best sets have fewer elements, and %d have as many", fewer, same)
	}
}

func TestMaximumOf(t *testing.T) {
	cases := []struct {
		f         impl.Function
		want, set int
	}{
		{function(0, 0), 0, 0}, {function(0, 1000), 1000, 0}, {function(0, -1000), -1000, 0}, {function(1, 3, -4), 3, 0}, {function(1, -4, 3), 3, 1}, {function(1, 3, 3), 3, 0},
		{function(2, 0, 1, 1, 0), 1, 1}, {function(2, 0, -1, -1, -2), 0, 0}, {function(2, -3, -2, -1, -1), -1, 2}, {function(2, 0, 0, 0, 1), 1, 3},
		{function(3, 0, 1, 1, 2, 2, 1, 1, 0), 2, 3}, {function(3, 0, 3, 2, 4, 2, 4, 4, 5), 5, 7}, {function(3, -9, -9, -9, -9, -9, -9, -8, -8), -8, 6},
		{functionOf(5, func(s int) int { return s * (31 - s) }), 240, 15}, {functionOf(5, func(s int) int { return s / 31 * 1000 }), 1000, 31},
	}
	for _, c := range cases {
		wantGreatest(t, c.f, c.want, c.set)
	}
	for _, f := range maximizable() {
		want, set := bestBy(f, f.Elements)
		wantGreatest(t, f, want, set)
		wantBestOfSize(t, f, f.Elements, want, set)
		// The greatest value is the least one of the negative values.
		negative, _ := impl.ScaleFunction(f, -1)
		wantBetween(t, negative, 0, 0, -want, set)
	}
}

func TestGreedyOfSize(t *testing.T) {
	f := function(3, 0, 3, 2, 4, 2, 4, 4, 5)
	g := function(3, 0, 5, 6, 9, 6, 10, 7, 12)
	cases := []struct {
		f     impl.Function
		k     int
		want  []int
		value int
	}{
		{f, 0, nil, 0}, {f, 1, []int{0}, 3}, {f, 2, []int{0, 1}, 4}, {f, 3, []int{0, 1, 2}, 5},
		// The elements are in the order in which they are added.
		{g, 1, []int{1}, 6}, {g, 2, []int{1, 0}, 9}, {g, 3, []int{1, 0, 2}, 12}, {function(2, 0, 1, 2, 3), 2, []int{1, 0}, 3}, {functionOf(5, func(s int) int { return s }), 5, []int{4, 3, 2, 1, 0}, 31}, {functionOf(5, func(s int) int { return s }), 3, []int{4, 3, 2}, 28},
		{function(0, 0), 0, nil, 0}, {function(0, -7), 0, nil, -7}, {function(1, 3, -4), 0, nil, 3}, {function(1, 3, -4), 1, []int{0}, -4}, {function(1, -1000, 1000), 1, []int{0}, 1000},
		// An element is added although all gains are negative, or 0.
		{function(2, 5, 4, 3, 2), 1, []int{0}, 4}, {function(2, 5, 3, 4, 2), 2, []int{1, 0}, 2}, {function(2, 0, 0, 0, 0), 2, []int{0, 1}, 0}, {functionOf(5, func(s int) int { return -s }), 5, []int{0, 1, 2, 3, 4}, -31}, {functionOf(5, func(s int) int { return -s }), 4, []int{0, 1, 2, 3}, -15},
		// The gain to the set counts, not the own value.
		{function(3, 0, 9, 8, 9, 7, 12, 9, 12), 2, []int{0, 2}, 12}, {function(3, 0, 9, 8, 9, 7, 12, 9, 12), 3, []int{0, 2, 1}, 12},
		// What is best at first need not be in the best set.
		{function(3, 0, 2, 2, 3, 2, 3, 4, 4), 2, []int{0, 1}, 3}, {function(2, 1000, -1000, 1000, -1000), 2, []int{1, 0}, -1000},
	}
	for _, c := range cases {
		wantGreedy(t, c.f, c.k, c.want, c.value)
	}
	for _, f := range append(maximizable(), increasing()...) {
		for k := range f.Elements + 1 {
			want, value := greedyBy(f, k)
			wantGreedy(t, f, k, want, value)
		}
	}
}

// No element that is not in the set has a greater gain than the one that is added,
// and no lesser one has this gain; more elements begin with the same ones.
func TestGreedyTakesGreatestGains(t *testing.T) {
	equal, negative := 0, 0
	for _, f := range append(maximizable(), increasing()...) {
		var before []int
		for k := range f.Elements + 1 {
			order, value, ok := impl.GreedyOfSize(f, k)
			if !ok || len(order) != k || !slices.Equal(order[:max(k-1, 0)], before) {
				t.Fatalf("GreedyOfSize(%v, %d) = %v, %v, after %v", f, k, order, ok, before)
			}
			s := 0
			for _, e := range before {
				s += 1 << e
			}
			before = order
			if k == 0 {
				continue
			}
			next := order[k-1]
			gain := impl.GainOf(f, s, next)
			if isIn(s, next) || value != f.Values[s]+gain {
				t.Errorf("GreedyOfSize(%v, %d) = %v, %d", f, k, order, value)
			}
			if gain < 0 {
				negative++
			}
			for e := range f.Elements {
				other := impl.GainOf(f, s, e)
				if !isIn(s, e) && (other > gain || other == gain && e < next) {
					t.Errorf("GreedyOfSize(%v, %d) = %v, but %d gains more than %d", f, k, order, e, next)
				}
				if !isIn(s, e) && other == gain && e > next {
					equal++
				}
			}
		}
	}
	if equal < 10000 || negative < 10000 {
		t.Errorf("only %d elements have the same gain as that added, and %d gains are negative", equal, negative)
	}
}

// Greed reaches its part of the best value of every polymatroid, for every k; for some
// of them one less would not be its part.
func TestGreedReachesItsPart(t *testing.T) {
	short, exact := 0, map[int]int{}
	for _, f := range increasing() {
		if !isPolymatroid(f) {
			t.Fatalf("%v is no polymatroid", f)
		}
		for k := range f.Elements + 1 {
			wantReaches(t, f, k, true)
			best, _, found := impl.BestOfSize(f, k)
			_, reached, ok := impl.GreedyOfSize(f, k)
			if !found || !ok || reached > best || !reachesBy(best, reached, k) {
				t.Errorf("%v: greed of %d elements reaches %d, %v of %d, %v", f, k, reached, ok, best, found)
			}
			// One element, or all, are best.
			if (k < 2 || k == f.Elements) && reached != best {
				t.Errorf("%v: greed of %d elements reaches %d of %d", f, k, reached, best)
			}
			if reached < best {
				short++
				if !reachesBy(best, reached-1, k) {
					exact[k]++
				}
			}
		}
	}
	if short < 300 || exact[2] < 3 || exact[3] < 1 {
		t.Errorf("greed gets less than the best value only %d times, and no more than its part %v times", short, exact)
	}
}

func TestGreedReachesNoMore(t *testing.T) {
	f, g := tightForTwo(), tightForThree()
	wantFunction(t, "the cover for two", f, true, function(3, 0, 2, 2, 3, 2, 3, 4, 4))
	wantBestOfSize(t, f, 2, 4, 6)
	wantGreedy(t, f, 2, []int{0, 1}, 3)
	wantReaches(t, f, 2, true)
	wantBestOfSize(t, g, 3, 27, 28)
	wantGreedy(t, g, 3, []int{0, 1, 2}, 19)
	wantReaches(t, g, 3, true)
	for by := 1; by <= 37; by++ {
		for _, f := range []impl.Function{f, g} {
			k := (f.Elements + 1) / 2
			scaled, ok := impl.ScaleFunction(f, by)
			if !ok {
				t.Fatalf("%d times the values of %v", by, f)
			}
			best, _, _ := impl.BestOfSize(scaled, k)
			_, reached, _ := impl.GreedyOfSize(scaled, k)
			if !reachesBy(best, reached, k) || reachesBy(best, reached-1, k) || reachesBy(best+1, reached, k) {
				t.Errorf("%v: greed of %d elements reaches %d of %d", scaled, k, reached, best)
			}
			wantReaches(t, scaled, k, true)
		}
	}
}

func TestGreedReachesOnlyOfPolymatroids(t *testing.T) {
	for _, f := range []impl.Function{
		// Not grounded, not increasing, and not submodular, each for this reason alone.
		function(0, 1), function(1, 1, 1), function(1, -1, 0), function(2, 1, 2, 2, 3), function(2, -1, 2, 2, 3), function(3, 7, 7, 7, 7, 7, 7, 7, 7),
		function(1, 0, -1), function(2, 0, 1, 1, 0), function(2, 0, 5, 5, 4), function(2, 0, 3, -1, 2), function(2, 0, 2, 2, 1),
		function(2, 0, 0, 0, 1), function(2, 0, 1, 1, 3), function(3, 0, 1, 1, 2, 1, 2, 2, 4), function(3, 0, 1, 1, 3, 1, 2, 2, 3),
		functionOf(5, func(s int) int { return 1 + len(elementsIn(s)) }), functionOf(5, func(s int) int { return len(elementsIn(s)) * (4 - len(elementsIn(s))) }), functionOf(5, func(s int) int { return len(elementsIn(s)) * len(elementsIn(s)) }),
	} {
		for k := range f.Elements + 1 {
			wantReaches(t, f, k, false)
			want, set := bestBy(f, k)
			wantBestOfSize(t, f, k, want, set)
			order, value := greedyBy(f, k)
			wantGreedy(t, f, k, order, value)
		}
	}
	reaches, part, less := 0, 0, 0
	for _, f := range append(maximizable(), increasing()...) {
		want := isPolymatroid(f)
		if got := impl.IsPolymatroid(f); got != want {
			t.Errorf("IsPolymatroid(%v) = %v", f, got)
		}
		for k := range f.Elements + 1 {
			wantReaches(t, f, k, want)
			best, _ := bestBy(f, k)
			_, reached := greedyBy(f, k)
			switch {
			case want:
				reaches++
			case reachesBy(best, reached, k):
				part++
			default:
				less++
			}
		}
	}
	if reaches < 1000 || part < 10000 || less < 1000 {
		t.Errorf("greed reaches its part of only %d polymatroids, %d others, and less of %d", reaches, part, less)
	}
}

func TestNoElements(t *testing.T) {
	reaches := 0
	for _, f := range append(maximizable(), increasing()...) {
		for _, v := range []int{f.Values[0], 0, 1, -1, 1000, -1000} {
			g := function(f.Elements, append([]int{v}, f.Values[1:]...)...)
			wantBestOfSize(t, g, 0, v, 0)
			wantGreedy(t, g, 0, nil, v)
			want := isPolymatroid(g)
			wantReaches(t, g, 0, want)
			if want {
				reaches++
			}
		}
	}
	if reaches < 1000 {
		t.Errorf("only %d polymatroids", reaches)
	}
	for n := range 6 {
		wantReaches(t, functionOf(n, func(int) int { return 0 }), 0, true)
		wantReaches(t, functionOf(n, func(int) int { return 1 }), 0, false)
		wantReaches(t, functionOf(n, func(int) int { return -1 }), 0, false)
		wantReaches(t, functionOf(n, func(s int) int { return 200 * len(elementsIn(s)) }), 0, true)
	}
}

func TestDoubleGreedy(t *testing.T) {
	cases := []struct {
		f    impl.Function
		want int
	}{
		{function(0, 0), 0}, {function(0, -1000), 0}, {function(1, 3, -4), 0}, {function(1, -4, 3), 1}, {function(1, -1000, 1000), 1}, {function(1, 1000, -1000), 0},
		// Of equal gains, that of adding counts.
		{function(1, 3, 3), 1}, {function(2, 7, 7, 7, 7), 3}, {function(2, 0, 1, 1, 0), 1}, {function(2, 0, 2, 2, 2), 3}, {function(2, 0, 1, 2, 1), 3}, {function(2, 0, 1, 3, 1), 2}, {function(2, 0, 0, 0, -1), 2}, {function(2, 0, 0, 0, 1), 3},
		{function(3, 0, 1, 1, 2, 2, 1, 1, 0), 3}, {function(3, 0, 2, 3, 2, 3, 2, 3, 0), 6}, {function(3, 0, 2, 3, 2, 3, 2, 2, 0), 5}, {function(3, 5, 4, 4, 3, 4, 3, 3, 2), 0}, {function(3, 0, 5, 0, 0, 0, 0, 6, 0), 6}, {function(3, 0, 6, 0, 0, 0, 0, 6, 0), 1},
		{functionOf(5, func(s int) int { return s }), 31}, {functionOf(5, func(s int) int { return -s }), 0}, {functionOf(5, func(s int) int { return -(s ^ 21) }), 21}, {functionOf(5, func(s int) int { return -(s ^ 10) }), 10},
	}
	for _, c := range cases {
		wantDouble(t, c.f, c.want)
	}
	each := map[int]int{}
	for _, f := range append(maximizable(), increasing()...) {
		want := doubleBy(f)
		wantDouble(t, f, want)
		if f.Elements > 2 {
			each[want]++
		}
		// Where nothing is lost by adding an element, all are added.
		if impl.IsIncreasing(f) {
			wantDouble(t, f, len(f.Values)-1)
		}
	}
	for s := range 8 {
		if each[s] < 100 {
			t.Errorf("DoubleGreedy returns the set %d only %d times", s, each[s])
		}
	}
}

// Of submodular functions without negative values both sets together reach a third
// of the greatest value, and of modular ones all of it.
func TestDoubleGreedyReachesAThird(t *testing.T) {
	whole, less := 0, 0
	for _, f := range append(maximizable(), dualizable()...) {
		least := slices.Min(f.Values)
		if !obeysLattice(f, 1) || slices.Max(f.Values)-least > 1000 {
			continue
		}
		g := functionOf(f.Elements, func(s int) int { return f.Values[s] - least })
		s, ok := impl.DoubleGreedy(g)
		greatest, _, found := impl.MaximumOf(g)
		if !ok || !found || 3*impl.ValueOf(g, s) < greatest {
			t.Fatalf("DoubleGreedy(%v) = %d, %v, but the greatest value is %d, %v", g, s, ok, greatest, found)
		}
		if impl.IsModular(g) && impl.ValueOf(g, s) != greatest {
			t.Errorf("DoubleGreedy(%v) = %d, but the function is modular", g, s)
		}
		if impl.ValueOf(g, s) == greatest {
			whole++
		} else {
			less++
		}
	}
	if whole < 1000 || less < 100 {
		t.Errorf("only %d sets have the greatest value, and %d less", whole, less)
	}
}

func TestLocalMaximum(t *testing.T) {
	f, g := function(2, 0, 1, 2, 0), function(3, 0, 2, 3, 1, 9, 0, 4, 5)
	cases := []struct {
		f       impl.Function
		s, want int
	}{
		// The least element counts, not the greatest gain.
		{f, 0, 1}, {f, 1, 1}, {f, 2, 2}, {f, 3, 2},
		{g, 0, 1}, {g, 1, 1}, {g, 2, 7}, {g, 3, 7}, {g, 4, 4}, {g, 5, 4}, {g, 6, 7}, {g, 7, 7},
		{function(0, 0), 0, 0}, {function(0, -7), 0, 0}, {function(1, 3, -4), 0, 0}, {function(1, 3, -4), 1, 0}, {function(1, -4, 3), 0, 1}, {function(1, -1000, 1000), 0, 1}, {function(1, 1000, -1000), 1, 0},
		// An equal value is not greater.
		{function(1, 3, 3), 0, 0}, {function(1, 3, 3), 1, 1}, {function(2, 4, 4, 4, 5), 0, 0}, {function(2, 4, 4, 4, 5), 1, 3},
		// After the element 1, the element 0 is worth a change.
		{function(3, 0, 0, 1, 2, 0, 0, 5, 0), 0, 3}, {function(3, 0, 0, 1, 0, 0, 0, 5, 0), 0, 6}, {function(3, 4, 0, 3, 0, 9, 2, 0, 1), 7, 4},
		{functionOf(5, func(s int) int { return s }), 0, 31}, {functionOf(5, func(s int) int { return -s }), 31, 0}, {functionOf(5, func(s int) int { return -(s ^ 21) }), 10, 21}, {functionOf(5, func(int) int { return 8 }), 19, 19},
	}
	for _, c := range cases {
		wantClimb(t, c.f, c.s, c.want)
	}
	long := 0
	for _, f := range append(maximizable(), increasing()...) {
		for s := range f.Values {
			want := climbBy(f, s)
			wantClimb(t, f, s, want)
			if len(elementsIn(s^want)) > 2 {
				long++
			}
		}
	}
	if long < 1000 {
		t.Errorf("only %d sets change in more than two elements", long)
	}
}

// The search goes through all sets that follow, one after the other.
func TestLocalMaximumIsFar(t *testing.T) {
	for n := 1; n <= 5; n++ {
		f, last := grayFunction(n), 1<<(n-1)
		for s := range f.Values {
			wantClimb(t, f, s, last)
			wantIsLocal(t, f, s, s == last)
		}
	}
}

// A set that LocalMaximum returns is one for which IsLocalMaximum is true, and only
// such a set stays as it is.
func TestLocalMaximaAreLocal(t *testing.T) {
	stays, climbs, below := 0, 0, 0
	for _, f := range append(maximizable(), increasing()...) {
		greatest, set, _ := impl.MaximumOf(f)
		wantIsLocal(t, f, set, true)
		wantClimb(t, f, set, set)
		for s, v := range f.Values {
			got, ok := impl.LocalMaximum(f, s)
			if !ok || !impl.IsLocalMaximum(f, got) || len(stepsBy(f, got)) > 0 {
				t.Fatalf("LocalMaximum(%v, %d) = %d, %v is no local maximum", f, s, got, ok)
			}
			wantClimb(t, f, got, got)
			if local := impl.IsLocalMaximum(f, s); local != (got == s) || local != (f.Values[got] <= v) {
				t.Errorf("LocalMaximum(%v, %d) = %d, but IsLocalMaximum is %v", f, s, got, local)
			}
			if got == s {
				stays++
			} else {
				climbs++
			}
			if f.Values[got] < greatest {
				below++
			}
		}
	}
	if min(stays, climbs, below) < 10000 {
		t.Errorf("only %d sets stay, %d climb, and %d end below the greatest value", stays, climbs, below)
	}
}

func TestIsLocalMaximum(t *testing.T) {
	f := function(2, 0, 1, 2, 0)
	cases := []struct {
		f    impl.Function
		s    int
		want bool
	}{
		{f, 0, false}, {f, 1, true}, {f, 2, true}, {f, 3, false},
		{function(0, 0), 0, true}, {function(0, -7), 0, true}, {function(1, 3, -4), 0, true}, {function(1, 3, -4), 1, false}, {function(1, -4, 3), 0, false}, {function(1, -4, 3), 1, true}, {function(1, 3, 3), 0, true}, {function(1, 3, 3), 1, true},
		// Only a change of the last element, by adding it or taking it out.
		{function(3, 5, 5, 5, 5, 6, 5, 5, 5), 0, false}, {function(3, 5, 5, 5, 5, 6, 5, 5, 5), 1, true}, {function(3, 6, 5, 5, 5, 5, 5, 5, 5), 4, false}, {function(3, 6, 5, 5, 5, 5, 5, 5, 5), 5, true},
		// Two changes together are not looked at.
		{function(2, 1, 0, 0, 9), 0, true}, {function(2, 1, 0, 0, 9), 1, false}, {function(2, 1, 0, 0, 9), 3, true},
	}
	for _, c := range cases {
		wantIsLocal(t, c.f, c.s, c.want)
	}
	for _, f := range append(maximizable(), increasing()...) {
		for s := range f.Values {
			wantIsLocal(t, f, s, len(stepsBy(f, s)) == 0)
		}
	}
}

// A local maximum of a submodular function is best of the sets that it contains and
// of those that contain it. Without negative values, it or its complement so reaches
// a third of the greatest value.
func TestLocalMaximaOfSubmodular(t *testing.T) {
	local, others := 0, 0
	for _, f := range maximizable() {
		if !obeysLattice(f, 1) {
			continue
		}
		greatest, least := slices.Max(f.Values), slices.Min(f.Values)
		for s := range f.Values {
			got, ok := impl.LocalMaximum(f, s)
			if !ok {
				t.Fatalf("LocalMaximum(%v, %d) fails", f, s)
			}
			for other, v := range f.Values {
				if (other|got == got || other&got == got) && v > f.Values[got] {
					t.Errorf("LocalMaximum(%v, %d) = %d, but %d is better", f, s, got, other)
				}
			}
			complement := len(f.Values) - 1 - got
			if 3*(max(f.Values[got], f.Values[complement])-least) < greatest-least {
				t.Errorf("LocalMaximum(%v, %d) = %d and %d have less than a third of %d", f, s, got, complement, greatest)
			}
			if f.Values[got] == greatest {
				local++
			} else {
				others++
			}
		}
	}
	if local < 1000 || others < 100 {
		t.Errorf("only %d local maxima have the greatest value, and %d less", local, others)
	}
}

func failsToGreedy(t *testing.T, f impl.Function, k int) {
	t.Helper()
	if got, s, ok := impl.BestOfSize(f, k); ok || got != 0 || s != 0 {
		t.Errorf("BestOfSize(%v, %d) = %d, %d, %v", f, k, got, s, ok)
	}
	if got, v, ok := impl.GreedyOfSize(f, k); ok || v != 0 || len(got) != 0 {
		t.Errorf("GreedyOfSize(%v, %d) = %v, %d, %v", f, k, got, v, ok)
	}
	wantReaches(t, f, k, false)
}

func failsToClimb(t *testing.T, f impl.Function, s int) {
	t.Helper()
	if got, ok := impl.LocalMaximum(f, s); ok || got != 0 {
		t.Errorf("LocalMaximum(%v, %d) = %d, %v", f, s, got, ok)
	}
	wantIsLocal(t, f, s, false)
}

func TestGreedyOfNoFunction(t *testing.T) {
	for _, f := range append(noFunctions(),
		function(0, 2000), function(1, 0, 1001), function(1, 0, -1001), function(1, 0, 1, 1, 1), function(1, 5, 6, 7), function(2, 0, 1, 1), function(2, 0, 1, 1, 1001), function(2, 0, 0, 0, math.MinInt), function(2, 0, 0, 0, math.MaxInt), function(3, 0, 1), function(-2, 5, 5, 5, 5),
		functionOf(5, func(s int) int { return 990 + s }), functionOf(5, func(s int) int { return -970 - s }), functionOf(5, func(s int) int { return 201 * len(elementsIn(s)) }), functionOf(6, func(s int) int { return len(elementsIn(s)) }), functionOf(7, func(s int) int { return -s }),
	) {
		if got, s, ok := impl.MaximumOf(f); ok || got != 0 || s != 0 {
			t.Errorf("MaximumOf(%v) = %d, %d, %v", f, got, s, ok)
		}
		if got, ok := impl.DoubleGreedy(f); ok || got != 0 {
			t.Errorf("DoubleGreedy(%v) = %d, %v", f, got, ok)
		}
		for _, k := range append(noElements(f.Elements), 0, 1, 2, 3, 4, 5, 6, 7, f.Elements-1, len(f.Values)) {
			failsToGreedy(t, f, k)
			failsToClimb(t, f, k)
		}
	}
}

func TestGreedyOfNoSize(t *testing.T) {
	for n := range 6 {
		for _, f := range []impl.Function{
			functionOf(n, func(int) int { return 0 }),
			functionOf(n, func(s int) int { return 200 * len(elementsIn(s)) }),
			functionOf(n, func(s int) int { return 3 - len(elementsIn(s)) }),
			functionOf(n, func(s int) int { return s * s % 7 }),
		} {
			for _, k := range []int{-1, -2, -5, -64, n + 1, n + 2, 6, 7, 31, 32, 33, 62, 63, 64, 65, 1 << 32, -1 << 32, 1<<32 + n, 1 << 62, math.MaxInt, math.MaxInt - 1, math.MinInt, math.MinInt + 1, math.MinInt + n} {
				failsToGreedy(t, f, k)
			}
			for k := range n + 1 {
				want, set := bestBy(f, k)
				wantBestOfSize(t, f, k, want, set)
			}
		}
	}
}

func TestLocalMaximumOfNoSet(t *testing.T) {
	for n := range 6 {
		for _, f := range []impl.Function{
			functionOf(n, func(int) int { return 0 }),
			functionOf(n, func(s int) int { return s }),
			functionOf(n, func(s int) int { return -s }),
			functionOf(n, func(s int) int { return s * s % 7 }),
		} {
			for _, s := range append(noSets(n), 1<<5, 1<<31, 1<<32, 1<<32+1, 1<<63-1-31, -31, -32, -33, math.MinInt+1) {
				if s < 0 || s >= len(f.Values) {
					failsToClimb(t, f, s)
				}
			}
		}
	}
}

// The values after the length are unused capacity, which stays as it was too.
func TestGreedyMemory(t *testing.T) {
	for n := range 6 {
		for _, value := range []func(s int) int{
			func(int) int { return 0 },
			func(s int) int { return len(elementsIn(s)) + 2*min(1, len(elementsIn(s&5))) },
			func(s int) int { return min(s, 11) },
		} {
			f, same := spare(functionOf(n, value))
			all := len(f.Values) - 1
			calls := map[string]func() ([]int, bool){
				"MaximumOf":      func() ([]int, bool) { v, s, ok := impl.MaximumOf(f); return []int{v, s}, ok },
				"DoubleGreedy":   func() ([]int, bool) { s, ok := impl.DoubleGreedy(f); return []int{s}, ok },
				"LocalMaximum":   func() ([]int, bool) { s, ok := impl.LocalMaximum(f, 0); return []int{s}, ok },
				"IsLocalMaximum": func() ([]int, bool) { return nil, impl.IsLocalMaximum(f, all) },
			}
			keepMemory(t, calls, same)
			for k := range n + 1 {
				keepMemory(t, map[string]func() ([]int, bool){
					"BestOfSize":    func() ([]int, bool) { v, s, ok := impl.BestOfSize(f, k); return []int{v, s}, ok },
					"GreedyOfSize":  func() ([]int, bool) { l, _, ok := impl.GreedyOfSize(f, k); return l, ok },
					"GreedyReaches": func() ([]int, bool) { return nil, impl.GreedyReaches(f, k) || !isPolymatroid(f) },
				}, same)
			}
		}
	}
}
