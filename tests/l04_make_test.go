package tests

import (
	"math"
	"slices"
	"testing"

	"loop.example/g03405/impl"
)

// Promise 4: cuts, covers, concave functions of the size and ranks are submodular.

// graphs has lists of up to 20 edges of n elements: loops, edges that are there
// twice or backwards, and weights at the limits.
func graphs(n int) [][]impl.Edge {
	out := [][]impl.Edge{nil, {}}
	if n == 0 {
		return out
	}
	var all []impl.Edge
	for i := range n {
		for k := range n {
			for _, w := range []int{0, 1, 20} {
				out = append(out, []impl.Edge{{From: i, To: k, Weight: w}})
			}
			all = append(all, impl.Edge{From: i, To: k, Weight: (5*i + 3*k) % 21})
		}
	}
	for i := range 21 {
		out = append(out, all[:min(len(all), i)], all[max(0, len(all)-i):])
	}
	full := slices.Repeat([]impl.Edge{{From: 0, To: n - 1, Weight: 20}}, 20)
	path := []impl.Edge{{From: 0, To: n / 2, Weight: 7}, {From: n / 2, To: n - 1, Weight: 5}, {From: n - 1, To: 0, Weight: 3}, {From: 0, To: n / 2, Weight: 2}}
	return append(out, full, path)
}

// covers has lists of up to 20 blocks of n elements.
func covers(n int) [][]impl.Block {
	out := [][]impl.Block{nil, {}}
	var all, full []impl.Block
	for s := range 1 << n {
		for _, w := range []int{0, 1, 20} {
			out = append(out, []impl.Block{{Set: s, Weight: w}})
		}
		all = append(all, impl.Block{Set: s, Weight: (s*s + 3*s) % 21})
	}
	for i := range 21 {
		out = append(out, full, all[:min(len(all), i)], all[max(0, len(all)-i):])
		full = append(full, impl.Block{Set: 1<<n - 1, Weight: 20})
	}
	return out
}

// isIn does not call the package, which it checks.
func isIn(s int, e int) bool {
	return slices.Contains(elementsIn(s), e)
}

// functionOf has n elements and the values that value says.
func functionOf(n int, value func(s int) int) impl.Function {
	f := impl.Function{Elements: n}
	for s := range 1 << n {
		f.Values = append(f.Values, value(s))
	}
	return f
}

func wantSubmodular(t *testing.T, call string, f impl.Function) {
	t.Helper()
	if !obeysLattice(f, 1) || !impl.IsSubmodular(f) {
		t.Errorf("%s: %v is not submodular", call, f)
	}
}

func TestCutFunction(t *testing.T) {
	got, ok := impl.CutFunction(3, []impl.Edge{{From: 0, To: 1, Weight: 2}, {From: 1, To: 2, Weight: 1}, {From: 2, To: 2, Weight: 9}})
	wantFunction(t, "a path and a loop", got, ok, function(3, 0, 2, 3, 1, 1, 3, 2, 0))
	got, ok = impl.CutFunction(2, []impl.Edge{{From: 1, To: 0, Weight: 20}, {From: 0, To: 1, Weight: 3}})
	wantFunction(t, "an edge in both directions", got, ok, function(2, 0, 23, 23, 0))
	for n := range 6 {
		for _, l := range graphs(n) {
			got, ok := impl.CutFunction(n, l)
			wantFunction(t, "CutFunction", got, ok, functionOf(n, func(s int) int {
				sum := 0
				for _, e := range l {
					if isIn(s, e.From) != isIn(s, e.To) {
						sum += e.Weight
					}
				}
				return sum
			}))
			wantSubmodular(t, "CutFunction", got)
		}
	}
}

func TestDirectedCut(t *testing.T) {
	got, ok := impl.DirectedCut(3, []impl.Edge{{From: 0, To: 1, Weight: 2}, {From: 1, To: 2, Weight: 1}, {From: 2, To: 2, Weight: 9}})
	wantFunction(t, "a path and a loop", got, ok, function(3, 0, 2, 1, 1, 0, 2, 0, 0))
	got, ok = impl.DirectedCut(2, []impl.Edge{{From: 1, To: 0, Weight: 20}, {From: 0, To: 1, Weight: 3}})
	wantFunction(t, "an edge in both directions", got, ok, function(2, 0, 3, 20, 0))
	for n := range 6 {
		for _, l := range graphs(n) {
			got, ok := impl.DirectedCut(n, l)
			wantFunction(t, "DirectedCut", got, ok, functionOf(n, func(s int) int {
				sum := 0
				for _, e := range l {
					if isIn(s, e.From) && !isIn(s, e.To) {
						sum += e.Weight
					}
				}
				return sum
			}))
			wantSubmodular(t, "DirectedCut", got)
		}
	}
}

func TestCoverFunction(t *testing.T) {
	got, ok := impl.CoverFunction(2, []impl.Block{{Set: 1, Weight: 2}, {Set: 3, Weight: 1}, {Set: 0, Weight: 5}})
	wantFunction(t, "three blocks", got, ok, function(2, 0, 3, 1, 3))
	got, ok = impl.CoverFunction(0, []impl.Block{{Set: 0, Weight: 5}})
	wantFunction(t, "a block of no elements", got, ok, function(0, 0))
	for n := range 6 {
		for _, l := range covers(n) {
			got, ok := impl.CoverFunction(n, l)
			wantFunction(t, "CoverFunction", got, ok, functionOf(n, func(s int) int {
				sum := 0
				for _, b := range l {
					if slices.ContainsFunc(elementsIn(s), func(e int) bool { return isIn(b.Set, e) }) {
						sum += b.Weight
					}
				}
				return sum
			}))
			wantSubmodular(t, "CoverFunction", got)
			if !impl.IsPolymatroid(got) {
				t.Errorf("the cover %v has %v, no polymatroid", l, got)
			}
		}
	}
}

// No edges and no blocks have the value 0 for each set.
func TestNoEdges(t *testing.T) {
	for n := range 6 {
		want := function(n, make([]int, 1<<n)...)
		for _, l := range [][]impl.Edge{nil, {}} {
			got, ok := impl.CutFunction(n, l)
			wantFunction(t, "the cut of no edges", got, ok, want)
			got, ok = impl.DirectedCut(n, l)
			wantFunction(t, "the directed cut of no edges", got, ok, want)
		}
		for _, l := range [][]impl.Block{nil, {}} {
			got, ok := impl.CoverFunction(n, l)
			wantFunction(t, "the cover of no blocks", got, ok, want)
		}
	}
}

func TestCutsInvalid(t *testing.T) {
	good := impl.Edge{From: 0, To: 1, Weight: 1}
	full := slices.Repeat([]impl.Edge{good}, 20)
	type graph struct {
		n int
		l []impl.Edge
	}
	cases := []graph{
		{-1, nil}, {6, nil}, {7, nil}, {63, nil}, {64, nil}, {math.MaxInt, nil}, {math.MinInt, nil},
		{6, full[:1]}, {-1, []impl.Edge{{From: -2, To: -2, Weight: 1}}},
		{0, []impl.Edge{{}}}, {0, []impl.Edge{{From: 0, To: 0, Weight: 1}}},
		{2, append(slices.Clone(full), impl.Edge{})}, {2, slices.Repeat(full, 2)}, {5, make([]impl.Edge, 21)},
	}
	for _, i := range []int{-1, 3, 4, 5, 64, math.MaxInt, math.MinInt} {
		cases = append(cases,
			graph{3, []impl.Edge{good, {From: i, To: 0, Weight: 1}}},
			graph{3, []impl.Edge{{From: 0, To: i, Weight: 0}, good}},
			graph{3, []impl.Edge{{From: i, To: i, Weight: 1}}})
	}
	for _, w := range []int{-1, 21, 1000, math.MaxInt, math.MinInt} {
		cases = append(cases,
			graph{2, append(slices.Clone(full[:19]), impl.Edge{From: 0, To: 1, Weight: w})},
			graph{1, []impl.Edge{{From: 0, To: 0, Weight: w}}})
	}
	for _, c := range cases {
		if got, ok := impl.CutFunction(c.n, c.l); ok || !isZero(got) {
			t.Errorf("CutFunction(%d, %v) = %v, %v", c.n, c.l, got, ok)
		}
		if got, ok := impl.DirectedCut(c.n, c.l); ok || !isZero(got) {
			t.Errorf("DirectedCut(%d, %v) = %v, %v", c.n, c.l, got, ok)
		}
	}
}

func TestCoverFunctionInvalid(t *testing.T) {
	full := slices.Repeat([]impl.Block{{Set: 1, Weight: 1}}, 20)
	cases := []struct {
		n int
		l []impl.Block
	}{
		{-1, nil}, {6, nil}, {7, nil}, {63, nil}, {64, nil}, {math.MaxInt, nil}, {math.MinInt, nil}, {6, full},
		{0, []impl.Block{{Set: 1, Weight: 1}}}, {2, []impl.Block{{Set: 4, Weight: 2}}}, {2, []impl.Block{{Set: 4, Weight: 0}}},
		{5, []impl.Block{{Set: 32}}}, {5, []impl.Block{{Set: -1}}}, {0, []impl.Block{{Set: -1}}}, {2, []impl.Block{{Set: 3, Weight: 1}, {Set: math.MaxInt}}}, {2, []impl.Block{{Set: math.MinInt}}},
		{2, []impl.Block{{Set: 1 << 32}}},
		{2, append(slices.Clone(full), impl.Block{})}, {2, slices.Repeat(full, 2)}, {0, make([]impl.Block, 21)},
		{1, []impl.Block{{Set: 1, Weight: -1}}}, {1, []impl.Block{{Set: 1, Weight: 21}}}, {1, []impl.Block{{Set: 0, Weight: 21}}}, {1, []impl.Block{{Set: 0, Weight: -1}}},
		{1, append(slices.Clone(full[:19]), impl.Block{Set: 1, Weight: 21})}, {1, []impl.Block{{Set: 1, Weight: math.MaxInt}}}, {1, []impl.Block{{Set: 0, Weight: math.MinInt}}},
	}
	for _, c := range cases {
		if got, ok := impl.CoverFunction(c.n, c.l); ok || !isZero(got) {
			t.Errorf("CoverFunction(%d, %v) = %v, %v", c.n, c.l, got, ok)
		}
	}
}

// sizeLists has every list of up to four values from -1 to 2, and lists of up
// to six at the limits.
func sizeLists() [][]int {
	out := [][]int{
		{1000}, {-1000}, {1000, -1000}, {-1000, 1000}, {-1000, 1000, 1000}, {-1000, 0, 1000}, {1000, 0, -1000}, {1000, 1000, -1000}, {1000, -1000, 1000}, {-1000, 1000, -1000},
		{0, 5, 9, 12, 14, 15}, {0, 5, 9, 12, 14, 17}, {0, 5, 9, 12, 15, 18}, {0, 5, 9, 12, 16, 16}, {0, 1, 3, 3, 3, 3}, {0, 4, 6, 6, 4, 0}, {7, 7, 7, 7, 7, 7}, {0, 1, 4, 9, 16, 25}, {0, 1, 2, 3, 4}, {4, 3, 1, -2, -6}, {-6, -2, 1, 3, 5},
	}
	list := [][]int{nil}
	for range 4 {
		var longer [][]int
		for _, v := range list {
			for x := -1; x <= 2; x++ {
				longer = append(longer, append(slices.Clone(v), x))
			}
		}
		out = append(out, longer...)
		list = longer
	}
	return out
}

func TestSizeFunction(t *testing.T) {
	got, ok := impl.SizeFunction([]int{0, 2, 3})
	wantFunction(t, "0, 2 and 3", got, ok, function(2, 0, 2, 2, 3))
	got, ok = impl.SizeFunction([]int{-4})
	wantFunction(t, "one value", got, ok, function(0, -4))
	for _, v := range sizeLists() {
		got, ok := impl.SizeFunction(v)
		wantFunction(t, "SizeFunction", got, ok, functionOf(len(v)-1, func(s int) int { return v[len(elementsIn(s))] }))
		// Those of the lists whose differences never grow, and only they.
		if impl.IsConcaveList(v) {
			wantSubmodular(t, "SizeFunction", got)
		} else if impl.IsSubmodular(got) {
			t.Errorf("SizeFunction(%v) is submodular, but the list is not concave", v)
		}
	}
}

func TestIsConcaveList(t *testing.T) {
	count := 0
	for _, v := range sizeLists() {
		want := true
		for i := range v {
			for k := range i {
				want = want && (k == 0 || v[i]-v[i-1] <= v[k]-v[k-1])
			}
		}
		if got := impl.IsConcaveList(v); got != want {
			t.Errorf("IsConcaveList(%v) = %v", v, got)
		}
		if want {
			count++
		}
	}
	if count < 50 {
		t.Errorf("only %d lists are concave", count)
	}
}

func TestSizesInvalid(t *testing.T) {
	lists := [][]int{
		nil, {}, make([]int, 7), make([]int, 8), make([]int, 63), make([]int, 64), make([]int, 65), {0, 1, 2, 3, 4, 5, 6},
		{1001}, {-1001}, {1001, 0}, {0, 1001}, {-1001, 0}, {0, -1001}, {0, 1001, 0}, {0, -1001, -3000}, {0, 0, 0, 0, 0, -1001}, {0, 900, 950, 980, 990, 1001},
		{math.MaxInt}, {math.MinInt}, {math.MinInt, math.MaxInt, 0}, {0, math.MaxInt, math.MinInt},
	}
	for _, v := range lists {
		if got, ok := impl.SizeFunction(v); ok || !isZero(got) {
			t.Errorf("SizeFunction(%v) = %v, %v", v, got, ok)
		}
		if impl.IsConcaveList(v) {
			t.Errorf("IsConcaveList(%v) is true", v)
		}
	}
}

// indexLists has every list of count numbers from 0 up to limit.
func indexLists(count int, limit int) [][]int {
	list := [][]int{nil}
	for range count {
		var longer [][]int
		for _, l := range list {
			for x := range limit {
				longer = append(longer, append(slices.Clone(l), x))
			}
		}
		list = longer
	}
	return list
}

func TestPartitionRank(t *testing.T) {
	got, ok := impl.PartitionRank([]int{0, 0, 1}, []int{1, 1})
	wantFunction(t, "a group of two and one of one", got, ok, function(3, 0, 1, 1, 1, 1, 2, 2, 2))
	got, ok = impl.PartitionRank(nil, nil)
	wantFunction(t, "no groups", got, ok, function(0, 0))
	got, ok = impl.PartitionRank(nil, []int{5, 0, 3, 2, 1})
	wantFunction(t, "no elements", got, ok, function(0, 0))
	got, ok = impl.PartitionRank([]int{0, 0, 0, 0, 0}, []int{5})
	wantFunction(t, "one group", got, ok, functionOf(5, func(s int) int { return len(elementsIn(s)) }))
	got, ok = impl.PartitionRank([]int{4, 3, 2, 1, 0}, []int{1, 0, 5, 0, 2})
	wantFunction(t, "five groups", got, ok, functionOf(5, func(s int) int { return len(elementsIn(s & 21)) }))
	for n := range 6 {
		for _, most := range [][]int{{0}, {1}, {2}, {5}, {1, 2}, {2, 0}, {5, 5}, {0, 1, 2}, {3, 1, 1}} {
			for _, groups := range indexLists(n, len(most)) {
				got, ok := impl.PartitionRank(groups, most)
				wantFunction(t, "PartitionRank", got, ok, functionOf(n, func(s int) int {
					sum := 0
					for g, m := range most {
						in := 0
						for e, group := range groups {
							if group == g && isIn(s, e) {
								in++
							}
						}
						sum += min(in, m)
					}
					return sum
				}))
				wantSubmodular(t, "PartitionRank", got)
				if !impl.IsPolymatroid(got) {
					t.Errorf("PartitionRank(%v, %v) = %v is no polymatroid", groups, most, got)
				}
			}
		}
	}
}

func TestPartitionRankInvalid(t *testing.T) {
	cases := []struct{ groups, most []int }{
		{make([]int, 6), []int{1}}, {make([]int, 63), []int{1}}, {make([]int, 64), []int{1}},
		{nil, make([]int, 6)}, {[]int{0}, []int{1, 1, 1, 1, 1, 1}}, {[]int{5}, []int{1, 1, 1, 1, 1, 1}}, {nil, make([]int, 64)},
		{[]int{0}, nil}, {[]int{2}, []int{1, 1}}, {[]int{0, 1, 2}, []int{1, 1}}, {[]int{-1}, []int{1, 1}}, {[]int{0, -1, 0}, []int{1}}, {[]int{math.MaxInt}, []int{1}}, {[]int{math.MinInt}, []int{1}},
		{nil, []int{-1}}, {nil, []int{6}}, {[]int{0}, []int{6}}, {[]int{0}, []int{-1}}, {[]int{0}, []int{1, 6}}, {[]int{1}, []int{-1, 1}}, {[]int{0, 0, 0, 0, 0}, []int{6}}, {[]int{0}, []int{math.MaxInt}}, {[]int{0}, []int{math.MinInt}},
	}
	for _, c := range cases {
		if got, ok := impl.PartitionRank(c.groups, c.most); ok || !isZero(got) {
			t.Errorf("PartitionRank(%v, %v) = %v, %v", c.groups, c.most, got, ok)
		}
	}
}

// The values after the length are unused capacity, which stays as it was too.
func TestMakeMemory(t *testing.T) {
	edges := []impl.Edge{{From: 0, To: 1, Weight: 2}, {From: 1, To: 2, Weight: 1}, {From: 7, To: 8, Weight: 9}}
	blocks := []impl.Block{{Set: 1, Weight: 2}, {Set: 3, Weight: 1}, {Set: 70, Weight: 80}}
	groups, most, sizes := []int{0, 0, 1, 77}, []int{2, 1, 78}, []int{0, 2, 3, 79}
	oldEdges, oldBlocks, oldGroups, oldMost, oldSizes := slices.Clone(edges), slices.Clone(blocks), slices.Clone(groups), slices.Clone(most), slices.Clone(sizes)
	makers := map[string]func() (impl.Function, bool){
		"CutFunction":   func() (impl.Function, bool) { return impl.CutFunction(3, edges[:2]) },
		"DirectedCut":   func() (impl.Function, bool) { return impl.DirectedCut(3, edges[:2]) },
		"CoverFunction": func() (impl.Function, bool) { return impl.CoverFunction(3, blocks[:2]) },
		"SizeFunction":  func() (impl.Function, bool) { return impl.SizeFunction(sizes[:3]) },
		"PartitionRank": func() (impl.Function, bool) { return impl.PartitionRank(groups[:3], most[:2]) },
		"IsConcaveList": func() (impl.Function, bool) { return impl.Function{}, impl.IsConcaveList(sizes[:3]) },
	}
	for name, call := range makers {
		first, ok := call()
		want := impl.FormatFunction(first)
		for s := range first.Values {
			first.Values[s] = 99
		}
		second, again := call()
		if !ok || !again || impl.FormatFunction(second) != want {
			t.Errorf("%s: %q, %v, then %v, %v", name, want, ok, second, again)
		}
		if !slices.Equal(edges, oldEdges) || !slices.Equal(blocks, oldBlocks) || !slices.Equal(groups, oldGroups) || !slices.Equal(most, oldMost) || !slices.Equal(sizes, oldSizes) {
			t.Errorf("%s modified an argument", name)
		}
	}
}
