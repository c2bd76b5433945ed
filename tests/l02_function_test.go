package tests

import (
	"math"
	"slices"
	"strconv"
	"strings"
	"testing"

	"loop.example/g03405/impl"
)

// Promise 3: functions are added set by set, and texts are read back.

const noValue = -9999

// function has the values; the number of elements is written out, since a test
// may want the two not to agree.
func function(elements int, values ...int) impl.Function {
	return impl.Function{Elements: elements, Values: values}
}

// samples has functions of every number of elements, with different values,
// the limits among them.
func samples() []impl.Function {
	out := []impl.Function{
		function(0, 0), function(0, 7), function(0, 1000), function(0, -1000),
		function(1, 0, 0), function(1, 3, -4), function(1, 1000, -1000),
		function(2, 0, 1, 1, 2), function(2, 1, 0, -1, 0), function(2, 5, 17, -3, 40),
		function(3, 0, 3, 1, 4, 1, 5, 9, 2), function(3, 1000, 1000, 1000, 1000, -1000, -1000, -1000, -1000),
	}
	for n := range 6 {
		f, g := impl.Function{Elements: n}, impl.Function{Elements: n}
		for s := range 1 << n {
			f.Values = append(f.Values, (s*s*37+s*11)%401-200)
			g.Values = append(g.Values, -1000+s)
		}
		out = append(out, f, g)
	}
	return out
}

// noFunctions has what IsFunction refuses, each for one reason.
func noFunctions() []impl.Function {
	long := make([]int, 64)
	return []impl.Function{
		{}, function(0, 1, 2), function(0, 1001), function(0, -1001), function(0, math.MaxInt), function(0, math.MinInt),
		function(-1), function(-1, 1), function(math.MinInt, 1), function(math.MaxInt, 1), function(math.MaxInt),
		function(1), function(1, 0), function(1, 0, 1, 2), function(1, 0, 1001), function(1, -1001, 0),
		function(2, 0, 1, 2), function(2, 0, 1, 2, 3, 4), function(2, 0, 0, 0, 1001), function(2, 0, 0, -1001, 0),
		function(5, long[:31]...), function(5, long[:33]...), function(6, long...), function(64, 1), function(65, 1, 2),
	}
}

func isZero(f impl.Function) bool {
	return f.Elements == 0 && len(f.Values) == 0
}

// spare returns the function with unused capacity behind its values, and a
// check that neither the values nor what lies behind them was written.
func spare(f impl.Function) (impl.Function, func() bool) {
	whole := append(slices.Clone(f.Values), 71, 72, 73, 74)
	before := slices.Clone(whole)
	f.Values = whole[:len(f.Values)]
	return f, func() bool { return slices.Equal(whole, before) }
}

func TestIsFunction(t *testing.T) {
	for _, f := range samples() {
		if !impl.IsFunction(f) {
			t.Errorf("IsFunction(%v) is false", f)
		}
	}
	for _, f := range noFunctions() {
		if impl.IsFunction(f) {
			t.Errorf("IsFunction(%v) is true", f)
		}
	}
}

func TestValueOf(t *testing.T) {
	for _, f := range samples() {
		for s, v := range f.Values {
			if got := impl.ValueOf(f, s); got != v {
				t.Errorf("ValueOf(%v, %d) = %d, want %d", f, s, got, v)
			}
		}
		for _, s := range []int{-1, len(f.Values), len(f.Values) + 1, 1 << 32, math.MinInt, math.MaxInt} {
			if got := impl.ValueOf(f, s); got != noValue {
				t.Errorf("ValueOf(%v, %d) = %d, want %d", f, s, got, noValue)
			}
		}
	}
	for _, f := range noFunctions() {
		for _, s := range []int{0, 1, -1} {
			if got := impl.ValueOf(f, s); got != noValue {
				t.Errorf("ValueOf(%v, %d) = %d, want %d", f, s, got, noValue)
			}
		}
	}
}

func TestGainOf(t *testing.T) {
	f := function(2, 5, 17, -3, 40)
	cases := []struct{ s, e, want int }{
		{0, 0, 12}, {0, 1, -8}, {1, 0, 0}, {1, 1, 23}, {2, 0, 43}, {2, 1, 0}, {3, 0, 0}, {3, 1, 0},
	}
	for _, c := range cases {
		if got := impl.GainOf(f, c.s, c.e); got != c.want {
			t.Errorf("GainOf(%v, %d, %d) = %d, want %d", f, c.s, c.e, got, c.want)
		}
	}
	if got := impl.GainOf(function(1, 1000, -1000), 0, 0); got != -2000 {
		t.Errorf("the gain from 1000 to -1000 is %d", got)
	}
	for _, f := range samples() {
		for s, v := range f.Values {
			for e := range f.Elements {
				want := 0
				if s/(1<<e)%2 == 0 {
					want = f.Values[s+1<<e] - v
				}
				if got := impl.GainOf(f, s, e); got != want {
					t.Errorf("GainOf(%v, %d, %d) = %d, want %d", f, s, e, got, want)
				}
			}
		}
	}
}

func TestGainOfInvalid(t *testing.T) {
	for _, f := range samples() {
		for _, s := range []int{-1, len(f.Values), math.MinInt, math.MaxInt} {
			if got := impl.GainOf(f, s, 0); got != noValue {
				t.Errorf("GainOf(%v, %d, 0) = %d, want %d", f, s, got, noValue)
			}
		}
		for _, e := range []int{-1, f.Elements, f.Elements + 1, 63, 64, math.MinInt, math.MaxInt} {
			for s := range f.Values {
				if got := impl.GainOf(f, s, e); got != noValue {
					t.Errorf("GainOf(%v, %d, %d) = %d, want %d", f, s, e, got, noValue)
				}
			}
		}
	}
	for _, f := range noFunctions() {
		if got := impl.GainOf(f, 0, 0); got != noValue {
			t.Errorf("GainOf(%v, 0, 0) = %d, want %d", f, got, noValue)
		}
	}
}

// wantFunction checks a result against the values it should have: it fails
// exactly if they are no function.
func wantFunction(t *testing.T, call string, got impl.Function, ok bool, want impl.Function) {
	t.Helper()
	if !impl.IsFunction(want) {
		want = impl.Function{}
	}
	if ok != impl.IsFunction(want) || got.Elements != want.Elements || !slices.Equal(got.Values, want.Values) {
		t.Errorf("%s = %v, %v, want %v", call, got, ok, want)
	}
}

func TestAddFunctions(t *testing.T) {
	got, ok := impl.AddFunctions(function(2, 0, 1, 1, 2), function(2, 1, 0, -1, 0))
	wantFunction(t, "the sum", got, ok, function(2, 1, 1, 0, 2))
	got, ok = impl.AddFunctions(function(0, 4), function(0, -9))
	wantFunction(t, "the sum without elements", got, ok, function(0, -5))
	for _, f := range samples() {
		for _, g := range samples() {
			want := impl.Function{Elements: f.Elements}
			for s := range f.Values {
				if f.Elements == g.Elements {
					want.Values = append(want.Values, f.Values[s]+g.Values[s])
				}
			}
			got, ok := impl.AddFunctions(f, g)
			wantFunction(t, "AddFunctions", got, ok, want)
		}
	}
}

func TestAddFunctionsInvalid(t *testing.T) {
	limits := []struct {
		a, b int
		ok   bool
	}{
		{999, 1, true}, {1000, 0, true}, {1000, 1, false}, {1000, 1000, false},
		{-999, -1, true}, {-1000, 0, true}, {-1000, -1, false}, {-1000, -1000, false}, {1000, -1000, true},
	}
	for _, c := range limits {
		got, ok := impl.AddFunctions(function(1, 0, c.a), function(1, 0, c.b))
		if ok != c.ok || !ok && !isZero(got) {
			t.Errorf("AddFunctions with %d and %d = %v, %v", c.a, c.b, got, ok)
		}
	}
	for _, f := range noFunctions() {
		// The partner agrees in Elements wherever it can.
		for _, g := range append(samples(), f) {
			if got, ok := impl.AddFunctions(f, g); ok || !isZero(got) {
				t.Errorf("AddFunctions(%v, %v) = %v, %v", f, g, got, ok)
			}
			if got, ok := impl.AddFunctions(g, f); ok || !isZero(got) {
				t.Errorf("AddFunctions(%v, %v) = %v, %v", g, f, got, ok)
			}
		}
	}
	// The sum would be a function, but one of the two is none.
	if got, ok := impl.AddFunctions(function(0, 1001), function(0, -1)); ok || !isZero(got) {
		t.Errorf("AddFunctions with 1001 = %v, %v", got, ok)
	}
	if got, ok := impl.AddFunctions(function(0, 1), function(0, -1001)); ok || !isZero(got) {
		t.Errorf("AddFunctions with -1001 = %v, %v", got, ok)
	}
}

func TestScaleFunction(t *testing.T) {
	got, ok := impl.ScaleFunction(function(2, 0, 1, 1, 2), -3)
	wantFunction(t, "the multiple", got, ok, function(2, 0, -3, -3, -6))
	for _, f := range samples() {
		for _, k := range []int{0, 1, -1, 2, 5, -5, 7, 500, 999, 1000, -1000} {
			want := impl.Function{Elements: f.Elements}
			for _, v := range f.Values {
				want.Values = append(want.Values, k*v)
			}
			got, ok := impl.ScaleFunction(f, k)
			wantFunction(t, "ScaleFunction by "+strconv.Itoa(k), got, ok, want)
		}
	}
}

func TestScaleFunctionInvalid(t *testing.T) {
	zero := function(2, 0, 0, 0, 0)
	for _, k := range []int{1000, -1000} {
		got, ok := impl.ScaleFunction(zero, k)
		wantFunction(t, "nothing times "+strconv.Itoa(k), got, ok, zero)
		got, ok = impl.ScaleFunction(function(0, 1), k)
		wantFunction(t, "one times "+strconv.Itoa(k), got, ok, function(0, k))
	}
	for _, k := range []int{1001, -1001, 1 << 62, math.MaxInt, math.MinInt} {
		// The products would be a function.
		if got, ok := impl.ScaleFunction(zero, k); ok || !isZero(got) {
			t.Errorf("ScaleFunction by %d = %v, %v", k, got, ok)
		}
	}
	for _, f := range noFunctions() {
		for _, k := range []int{0, 1, -1} {
			if got, ok := impl.ScaleFunction(f, k); ok || !isZero(got) {
				t.Errorf("ScaleFunction(%v, %d) = %v, %v", f, k, got, ok)
			}
		}
	}
	if got, ok := impl.ScaleFunction(function(1, 0, 501), 2); ok || !isZero(got) {
		t.Errorf("twice 501 is %v, %v", got, ok)
	}
}

func TestLowerFunction(t *testing.T) {
	got, ok := impl.LowerFunction(function(1, 2, 1))
	wantFunction(t, "LowerFunction", got, ok, function(1, 0, -1))
	got, ok = impl.LowerFunction(function(0, 9))
	wantFunction(t, "LowerFunction without elements", got, ok, function(0, 0))
	for _, f := range append(samples(), function(1, -1, 999), function(1, -1, 1000), function(1, 1, -999), function(1, 1, -1000)) {
		want := impl.Function{Elements: f.Elements}
		for _, v := range f.Values {
			want.Values = append(want.Values, v-f.Values[0])
		}
		got, ok := impl.LowerFunction(f)
		wantFunction(t, "LowerFunction", got, ok, want)
	}
	for _, f := range append(noFunctions(), function(1, 1, 1001), function(1, -1, 1000)) {
		if got, ok := impl.LowerFunction(f); ok || !isZero(got) {
			t.Errorf("LowerFunction(%v) = %v, %v", f, got, ok)
		}
	}
}

func TestFormatFunction(t *testing.T) {
	cases := []struct {
		f    impl.Function
		want string
	}{
		{function(2, 0, 1, 1, 2), "0,1,1,2"},
		{function(0, 0), "0"},
		{function(0, -1000), "-1000"},
		{function(1, 1000, -7), "1000,-7"},
	}
	for _, c := range cases {
		if got := impl.FormatFunction(c.f); got != c.want {
			t.Errorf("FormatFunction(%v) = %q, want %q", c.f, got, c.want)
		}
	}
	for _, f := range noFunctions() {
		if got := impl.FormatFunction(f); got != "" {
			t.Errorf("FormatFunction(%v) = %q, want nothing", f, got)
		}
	}
}

func TestFunctionInverse(t *testing.T) {
	longest := function(5, slices.Repeat([]int{-1000}, 32)...)
	for _, f := range append(samples(), longest) {
		s := impl.FormatFunction(f)
		got, ok := impl.ParseFunction(s)
		wantFunction(t, "ParseFunction("+strconv.Quote(s)+")", got, ok, f)
	}
	// What is read is what is written, for every text of up to five of these.
	signs := "019-,"
	texts := []string{""}
	for range 6 {
		for _, s := range texts {
			if f, ok := impl.ParseFunction(s); ok != impl.IsFunction(f) || ok && impl.FormatFunction(f) != s || !ok && !isZero(f) {
				t.Fatalf("ParseFunction(%q) = %v, %v", s, f, ok)
			}
		}
		var longer []string
		for _, s := range texts {
			for i := range signs {
				longer = append(longer, s+signs[i:i+1])
			}
		}
		texts = longer
	}
}

func TestParseFunctionInvalid(t *testing.T) {
	texts := []string{
		"", ",", "0,", ",0", "0,,1", "0,1,", "x", "0,x", "x,0", "0;1", "0.1", "0, 1", " 0", "0 ", "0\n", "0\x00", "0,1\x80", "\u0660",
		"00", "01", "-0", "+1", "--1", "-", "0,-", "0,-0", "0,01", "0,+1", "1e2", "0x1", "1_0",
		"1001", "-1001", "0,1001", "-1001,0", "999999999", "1234567890", "18446744073709551616", "18446744073709551617,0",
		strings.Repeat("0", 200), strings.Repeat("0", 201), strings.Repeat("0,", 200) + "0",
	}
	for count := range 70 {
		s := strings.TrimSuffix(strings.Repeat("0,", count), ",")
		if !slices.Contains([]int{1, 2, 4, 8, 16, 32}, count) {
			texts = append(texts, s)
		} else if f, ok := impl.ParseFunction(s); !ok || len(f.Values) != count || 1<<f.Elements != count {
			t.Errorf("ParseFunction(%q) = %v, %v", s, f, ok)
		}
	}
	// 64 values in more than 200 bytes, and a text that is right but for its end.
	texts = append(texts, strings.TrimSuffix(strings.Repeat("1000,", 64), ","))
	longest := strings.TrimSuffix(strings.Repeat("-1000,", 32), ",")
	texts = append(texts, longest+strings.Repeat(" ", 9), longest+strings.Repeat("\x00", 10), longest+",", longest+",0")
	for _, s := range texts {
		if f, ok := impl.ParseFunction(s); ok || !isZero(f) {
			t.Errorf("ParseFunction(%q) = %v, %v", s, f, ok)
		}
	}
}

func TestEqualFunctions(t *testing.T) {
	all := append(samples(), noFunctions()...)
	for i, f := range all {
		for k, g := range all {
			want := f.Elements == g.Elements && slices.Equal(f.Values, g.Values)
			if got := impl.EqualFunctions(f, g); got != want {
				t.Errorf("EqualFunctions(%v, %v) = %v (%d, %d)", f, g, got, i, k)
			}
		}
	}
	if !impl.EqualFunctions(impl.Function{Elements: 1}, impl.Function{Elements: 1, Values: []int{}}) {
		t.Error("a nil and an empty slice should be equal")
	}
	different := []impl.Function{function(2, 0, 1, 1, 1), function(2, 1, 1, 1, 2), function(2, 0, 1, 1), function(2, 0, 1, 1, 2, 0), function(3, 0, 1, 1, 2)}
	for _, g := range different {
		if f := function(2, 0, 1, 1, 2); impl.EqualFunctions(f, g) || impl.EqualFunctions(g, f) {
			t.Errorf("%v and %v should differ", f, g)
		}
	}
}

func TestElementsOf(t *testing.T) {
	for n := range 11 {
		for s := range 1 << n {
			var want []int
			for e := range n {
				if s/(1<<e)%2 == 1 {
					want = append(want, e)
				}
			}
			if got := impl.ElementsOf(n, s); !slices.Equal(got, want) {
				t.Errorf("ElementsOf(%d, %d) = %v, want %v", n, s, got, want)
			}
		}
		for _, s := range []int{-1, 1 << n, 1<<n + 1, math.MinInt, math.MaxInt} {
			if got := impl.ElementsOf(n, s); len(got) != 0 {
				t.Errorf("ElementsOf(%d, %d) = %v, want nothing", n, s, got)
			}
		}
	}
	for _, n := range []int{-1, 11, 12, 63, 64, 65, math.MinInt, math.MaxInt} {
		for _, s := range []int{0, 1, 5, -1, math.MaxInt} {
			if got := impl.ElementsOf(n, s); len(got) != 0 {
				t.Errorf("ElementsOf(%d, %d) = %v, want nothing", n, s, got)
			}
		}
	}
}

// Arguments stay as they are, even behind the length of a slice, and a result
// does not change with an argument or with another result.
func TestFunctionMemory(t *testing.T) {
	results := func(f, g impl.Function) []impl.Function {
		sum, _ := impl.AddFunctions(f, g)
		multiple, _ := impl.ScaleFunction(f, 1)
		lowered, _ := impl.LowerFunction(f)
		return []impl.Function{sum, multiple, lowered}
	}
	for n := range 6 {
		values := make([]int, 1<<n)
		f, sameF := spare(function(n, values...))
		g, sameG := spare(function(n, values...))
		out := results(f, g)
		impl.ValueOf(f, 0)
		impl.GainOf(f, 0, 0)
		impl.FormatFunction(f)
		impl.EqualFunctions(f, g)
		if !sameF() || !sameG() {
			t.Errorf("%d elements: an argument was modified", n)
		}
		for i := range f.Values {
			f.Values[i], g.Values[i] = 500, 600
		}
		for i, r := range out {
			if !slices.Equal(r.Values, values) {
				t.Errorf("%d elements: result %d shares memory with an argument or another result", n, i)
			}
			for s := range r.Values {
				r.Values[s] = 700 + i
			}
		}
	}
}

// A result of one call does not change with that of another.
func TestFunctionCalls(t *testing.T) {
	for _, s := range []string{"0", "0,1,1,2"} {
		f, _ := impl.ParseFunction(s)
		f.Values[0] = 5
		if g, _ := impl.ParseFunction(s); impl.FormatFunction(g) != s || f.Values[0] != 5 {
			t.Errorf("ParseFunction(%q) = %v after a change of its result", s, g)
		}
	}
	list := impl.ElementsOf(5, 21)
	list[0] = 9
	if again := impl.ElementsOf(5, 21); !slices.Equal(again, []int{0, 2, 4}) || list[0] != 9 {
		t.Errorf("ElementsOf(5, 21) = %v after a change of its result", again)
	}
}
