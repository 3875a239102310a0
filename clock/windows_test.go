package clock_test

import (
	"math"
	"math/rand"
	"slices"
	"testing"

	"bikeshare/api"
	"bikeshare/clock"
)

type windows = []api.Window

// list returns the windows between each pair of bounds.
func list(bounds ...int) windows {
	var l windows
	for i := 0; i < len(bounds); i += 2 {
		l = append(l, api.Window{From: bounds[i], To: bounds[i+1]})
	}
	return l
}

// wrongWindows are windows that are not valid.
var wrongWindows = list(-1, 5, -1, -1, -1, 0, -2, -1, 5, 4, 1, 0, 0, -1, end, end-1, 0, end+1, end, end+1, end+1, end+1, end+1, end, end+1, 0, math.MinInt, 5, math.MinInt, math.MaxInt, 0, math.MaxInt, math.MaxInt, math.MinInt, math.MaxInt, math.MaxInt, math.MinInt, math.MinInt, 0, math.MinInt, math.MinInt, 0)

// P2.2: windows at and beyond the limits.
func TestValid(t *testing.T) {
	for _, w := range list(0, 0, 0, 1, 1, 1, 5, 9, 0, end, 0, api.MaxTime, api.MaxTime, api.MaxTime, api.MaxTime, end, end, end, 0, api.Day) {
		if !clock.Valid(w) {
			t.Errorf("%v is not valid", w)
		}
	}
	for _, w := range wrongWindows {
		if clock.Valid(w) {
			t.Errorf("%v is valid", w)
		}
	}
}

// P2.2: all pairs of bounds around 0, and around the last moment.
func TestValidAroundTheLimits(t *testing.T) {
	var bounds []int
	for n := range 7 {
		bounds = append(bounds, n-3, end+n-3)
	}
	for _, from := range bounds {
		for _, to := range bounds {
			want := from >= 0 && to >= from && to <= end
			if got := clock.Valid(api.Window{From: from, To: to}); got != want {
				t.Errorf("Valid of %d..%d: %t", from, to, got)
			}
		}
	}
}

func check(t *testing.T, name string, a, b, got windows, e api.Errno, want windows) {
	t.Helper()
	if !slices.Equal(got, want) || e != api.OK {
		t.Errorf("%s of %v and %v: %v, error %d, not %v", name, a, b, got, e, want)
	}
}

// P2.3, P2.7: normal forms and lengths, worked out by hand.
func TestUnionAndLength(t *testing.T) {
	for _, x := range []struct {
		l, want windows
		n       int
	}{
		{nil, nil, 0},
		{list(), nil, 0},
		{windows{}, nil, 0},
		{list(5, 9, 1, 3, 3, 4), list(1, 4, 5, 9), 7},
		{list(0, 4, 2, 6), list(0, 6), 6},
		{list(2, 6, 0, 4), list(0, 6), 6},
		{list(3, 3), nil, 0},
		{list(0, 0, end, end), nil, 0},
		{list(0, 0, 2, 2, 0, 0), nil, 0},
		{list(1, 3, 2, 2), list(1, 3), 2},
		{list(1, 3, 3, 3, 5, 6), list(1, 3, 5, 6), 3},
		{list(1, 3, 4, 4, 5, 6), list(1, 3, 5, 6), 3},
		{list(1, 3, 4, 6), list(1, 3, 4, 6), 4},
		{list(1, 3, 3, 6), list(1, 6), 5},
		{list(3, 6, 1, 3), list(1, 6), 5},
		{list(1, 9, 3, 4), list(1, 9), 8},
		{list(3, 4, 1, 9), list(1, 9), 8},
		{list(1, 9, 2, 3, 4, 5, 8, 10), list(1, 10), 9},
		{list(1, 9, 1, 3), list(1, 9), 8},
		{list(1, 3, 1, 9), list(1, 9), 8},
		{list(7, 9, 7, 9, 7, 9), list(7, 9), 2},
		{list(0, end), list(0, end), end},
		{list(0, 1, api.MaxTime, end), list(0, 1, api.MaxTime, end), 2},
		{list(5, end, 0, 5), list(0, end), end},
		{list(9, 10, 7, 8, 5, 6, 3, 4, 1, 2), list(1, 2, 3, 4, 5, 6, 7, 8, 9, 10), 5},
	} {
		got, e := clock.Union(x.l)
		check(t, "Union", x.l, nil, got, e, x.want)
		if n, e := clock.Length(x.l); n != x.n || e != api.OK {
			t.Errorf("Length of %v: %d, error %d, not %d", x.l, n, e, x.n)
		}
	}
}

// P2.3: what two lists have in common, and what one has beyond the other, worked out by hand.
func TestCommonAndMinus(t *testing.T) {
	all := list(0, end)
	for _, x := range []struct{ a, b, common, minus windows }{
		{nil, nil, nil, nil},
		{list(1, 3), nil, nil, list(1, 3)},
		{nil, list(1, 3), nil, nil},
		{list(0, 4, 6, 9), list(2, 7), list(2, 4, 6, 7), list(0, 2, 7, 9)},
		{list(0, 10), list(3, 5), list(3, 5), list(0, 3, 5, 10)},
		{list(3, 5), list(0, 10), list(3, 5), nil},
		{list(3, 5), list(3, 5), list(3, 5), nil},
		{list(3, 5), list(5, 9), nil, list(3, 5)},
		{list(3, 5), list(1, 3), nil, list(3, 5)},
		{list(3, 5), list(4, 4), nil, list(3, 5)},
		{list(4, 4), list(3, 5), nil, nil},
		{list(0, 10), list(3, 3, 5, 5), nil, list(0, 10)},
		{list(0, 10), list(0, 3), list(0, 3), list(3, 10)},
		{list(0, 10), list(7, 10), list(7, 10), list(0, 7)},
		{list(0, 10), list(3, 5, 9, 20), list(3, 5, 9, 10), list(0, 3, 5, 9)},
		{list(0, 5, 5, 10), list(3, 5, 5, 7), list(3, 7), list(0, 3, 7, 10)},
		{list(0, 6, 4, 10), list(4, 6, 1, 2), list(1, 2, 4, 6), list(0, 1, 2, 4, 6, 10)},
		{list(8, 9, 2, 3), list(8, 9, 0, 1), list(8, 9), list(2, 3)},
		{all, all, all, nil},
		{all, nil, nil, all},
		{all, list(end, end, 0, 0), nil, all},
		{all, list(0, 1), list(0, 1), list(1, end)},
		{all, list(api.MaxTime, end), list(api.MaxTime, end), list(0, api.MaxTime)},
		{list(api.MaxTime, end), all, list(api.MaxTime, end), nil},
		{all, list(5, 6), list(5, 6), list(0, 5, 6, end)},
	} {
		got, e := clock.Common(x.a, x.b)
		check(t, "Common", x.a, x.b, got, e, x.common)
		got, e = clock.Common(x.b, x.a)
		check(t, "Common", x.b, x.a, got, e, x.common)
		got, e = clock.Minus(x.a, x.b)
		check(t, "Minus", x.a, x.b, got, e, x.minus)
	}
}

// P2.3: a window that is not valid is found at each place of each list, whatever the other list has.
func TestWindowErrors(t *testing.T) {
	for _, wrong := range wrongWindows {
		for _, other := range []windows{nil, list(0, 0), list(5, 9, 1, 3), list(0, end), wrongWindows} {
			for at := range len(other) + 1 {
				bad := slices.Insert(slices.Clone(other), at, wrong)
				if l, e := clock.Union(bad); l != nil || e != api.ErrRange {
					t.Errorf("Union of %v: %v, error %d", bad, l, e)
				}
				if n, e := clock.Length(bad); n != 0 || e != api.ErrRange {
					t.Errorf("Length of %v: %d, error %d", bad, n, e)
				}
				for _, x := range [][2]windows{{bad, other}, {other, bad}, {bad, bad}, {bad, nil}, {nil, bad}} {
					if l, e := clock.Common(x[0], x[1]); l != nil || e != api.ErrRange {
						t.Errorf("Common of %v: %v, error %d", x, l, e)
					}
					if l, e := clock.Minus(x[0], x[1]); l != nil || e != api.ErrRange {
						t.Errorf("Minus of %v: %v, error %d", x, l, e)
					}
				}
			}
		}
	}
}

// results calls the functions for two lists of valid windows.
func results(t *testing.T, a, b windows) (union, common, minus windows, length int) {
	t.Helper()
	union, e1 := clock.Union(a)
	common, e2 := clock.Common(a, b)
	minus, e3 := clock.Minus(a, b)
	length, e4 := clock.Length(a)
	if e1 != api.OK || e2 != api.OK || e3 != api.OK || e4 != api.OK {
		t.Fatalf("%v and %v: errors %d, %d, %d, %d", a, b, e1, e2, e3, e4)
	}
	return union, common, minus, length
}

// somePairs visits pairs of lists: all of at most two windows among the first few moments, and among the last few; three windows and one; and random ones.
func somePairs(visit func(a, b windows)) {
	for _, base := range []int{0, end - 4} {
		pairsAmong(base, visit)
	}
	r := rand.New(rand.NewSource(1))
	for range 20000 {
		size := 2 + r.Intn(60)
		base := []int{0, end - size, r.Intn(end - size)}[r.Intn(3)]
		visit(someWindows(r, base, size), someWindows(r, base, size))
	}
}

// pairsAmong visits pairs of lists whose windows lie between base and base + 4.
func pairsAmong(base int, visit func(a, b windows)) {
	var few, three []windows
	var single windows
	for from := range 5 {
		for to := from; to < 5; to++ {
			single = append(single, list(base+from, base+to)...)
		}
	}
	few = append(few, nil)
	for _, u := range single {
		few = append(few, windows{u})
		for _, v := range single {
			few = append(few, windows{u, v})
			for _, w := range single {
				three = append(three, windows{u, v, w})
			}
		}
	}
	for _, a := range few {
		for _, b := range few {
			visit(a, b)
		}
	}
	for _, a := range three {
		for _, w := range single {
			visit(a, windows{w})
			visit(windows{w}, a)
		}
	}
}

// someWindows returns windows between base and base + size, of different lengths, some of them empty, equal or touching.
func someWindows(r *rand.Rand, base, size int) windows {
	l := make(windows, r.Intn(12))
	most := 1 + r.Intn(size)
	for i := range l {
		from := r.Intn(size + 1)
		if i > 0 && r.Intn(4) == 0 {
			from = l[r.Intn(i)].To - base
		}
		l[i] = api.Window{From: base + from, To: base + min(size, from+r.Intn(most+1))}
		if i > 0 && r.Intn(8) == 0 {
			l[i] = l[r.Intn(i)]
		}
	}
	return l
}

func contains(l windows, moment int) bool {
	return slices.ContainsFunc(l, func(w api.Window) bool { return w.From <= moment && moment < w.To })
}

// span returns moments between which all windows of the lists lie.
func span(lists ...windows) (int, int) {
	from, to := math.MaxInt, math.MinInt
	for _, l := range lists {
		for _, w := range l {
			from, to = min(from, w.From), max(to, w.To)
		}
	}
	return from, to
}

// P2.5: the moments of the results are those that the definitions give, in and around the windows.
func TestMoments(t *testing.T) {
	somePairs(func(a, b windows) {
		union, common, minus, _ := results(t, a, b)
		from, to := span(a, b, union, common, minus)
		for moment := from - 1; moment < to+1; moment++ {
			inA, inB := contains(a, moment), contains(b, moment)
			if contains(union, moment) != inA || contains(common, moment) != (inA && inB) || contains(minus, moment) != (inA && !inB) {
				t.Fatalf("%v and %v at %d: %v, %v, %v", a, b, moment, union, common, minus)
			}
		}
	})
}

func sum(l windows) int {
	n := 0
	for _, w := range l {
		n += w.To - w.From
	}
	return n
}

// P2.6: the lengths of the results add up.
func TestLengths(t *testing.T) {
	somePairs(func(a, b windows) {
		union, common, minus, length := results(t, a, b)
		_, _, _, lengthOfB := results(t, b, a)
		_, _, _, ofCommon := results(t, common, nil)
		_, _, _, ofMinus := results(t, minus, nil)
		_, _, _, ofBoth := results(t, slices.Concat(a, b), nil)
		if ofCommon+ofMinus != length || ofBoth+ofCommon != length+lengthOfB {
			t.Fatalf("%v and %v: lengths %d, %d, %d, %d, %d", a, b, length, lengthOfB, ofCommon, ofMinus, ofBoth)
		}
		if sum(union) != length || sum(common) != ofCommon || sum(minus) != ofMinus {
			t.Fatalf("%v and %v: lengths %d, %d, %d of %v, %v, %v", a, b, length, ofCommon, ofMinus, union, common, minus)
		}
		from, to := span(a)
		n := 0
		for moment := from; moment < to; moment++ {
			if contains(a, moment) {
				n++
			}
		}
		if n != length {
			t.Fatalf("Length of %v: %d, not %d", a, length, n)
		}
	})
}

func isNormal(l windows) bool {
	for i, w := range l {
		if w.From < 0 || w.From >= w.To || w.To > end || i > 0 && w.From <= l[i-1].To {
			return false
		}
	}
	return true
}

// P2.7: the results are in normal form, which Union does not change.
func TestResultsAreInNormalForm(t *testing.T) {
	somePairs(func(a, b windows) {
		union, common, minus, _ := results(t, a, b)
		for _, l := range []windows{union, common, minus} {
			again, e := clock.Union(l)
			if !isNormal(l) || !slices.Equal(again, l) || e != api.OK {
				t.Fatalf("%v and %v: the result %v, whose Union is %v", a, b, l, again)
			}
		}
	})
}

// P2.7: the order and the repetition of windows, and empty ones, do not matter.
func TestOrderAndRepetitionDoNotMatter(t *testing.T) {
	r := rand.New(rand.NewSource(2))
	mix := func(l windows) windows {
		l = slices.Clone(l)
		for range r.Intn(3) {
			if len(l) > 0 {
				w := l[r.Intn(len(l))]
				l = append(l, w, api.Window{From: w.To, To: w.To})
			}
		}
		r.Shuffle(len(l), func(i, j int) { l[i], l[j] = l[j], l[i] })
		return l
	}
	somePairs(func(a, b windows) {
		union, common, minus, length := results(t, a, b)
		c, d := mix(a), mix(b)
		union2, common2, minus2, length2 := results(t, c, d)
		if !slices.Equal(union, union2) || !slices.Equal(common, common2) || !slices.Equal(minus, minus2) || length != length2 {
			t.Fatalf("%v and %v, and in the order %v and %v: %v, %v, %v, and %v, %v, %v", a, b, c, d, union, common, minus, union2, common2, minus2)
		}
	})
}

// P2.3: the arguments are not changed, neither within their lengths nor behind them.
func TestArgumentsAreLeftAlone(t *testing.T) {
	rest := list(70, 80, 60, 61)
	somePairs(func(a, b windows) {
		wholeA, wholeB := slices.Concat(a, rest), slices.Concat(b, rest)
		results(t, wholeA[:len(a)], wholeB[:len(b)])
		if !slices.Equal(wholeA, slices.Concat(a, rest)) || !slices.Equal(wholeB, slices.Concat(b, rest)) {
			t.Fatalf("%v and %v were changed into %v and %v", a, b, wholeA, wholeB)
		}
	})
}

// P2.3: the results share no memory with the arguments, nor with each other.
func TestResultsAreNew(t *testing.T) {
	for _, a := range []windows{list(1, 3), list(1, 3, 5, 9), list(5, 9, 1, 3), list(0, end)} {
		calls := []func() (windows, api.Errno){
			func() (windows, api.Errno) { return clock.Union(a) },
			func() (windows, api.Errno) { return clock.Common(a, a) },
			func() (windows, api.Errno) { return clock.Common(a, list(0, end)) },
			func() (windows, api.Errno) { return clock.Minus(a, nil) },
		}
		for i, call := range calls {
			before, want := slices.Clone(a), sortedWindows(a)
			first, _ := call()
			second, _ := call()
			for k := range first {
				first[k] = api.Window{From: 77, To: 77}
			}
			_ = append(first, api.Window{From: 88, To: 88})
			third, _ := call()
			if !slices.Equal(a, before) || !slices.Equal(second, want) || !slices.Equal(third, want) {
				t.Errorf("call %d: a change of a result leads to %v, %v, %v", i, a, second, third)
			}
		}
	}
}

func sortedWindows(l windows) windows {
	l = slices.Clone(l)
	slices.SortFunc(l, func(v, w api.Window) int { return v.From - w.From })
	return l
}

// P2.3: the lists may be long, in any order.
func TestLongLists(t *testing.T) {
	const count = 400000
	apart, inside, touching := make(windows, count), make(windows, count), make(windows, count)
	for i := range count {
		from := 10 * (count - 1 - i)
		apart[i] = api.Window{From: from, To: from + 7}
		inside[i] = api.Window{From: from + 2, To: from + 3}
		touching[i] = api.Window{From: from, To: from + 10}
	}
	union, common, minus, length := results(t, apart, inside)
	if len(union) != count || len(common) != count || len(minus) != 2*count || length != 7*count {
		t.Errorf("windows apart: %d, %d, %d windows, length %d", len(union), len(common), len(minus), length)
	}
	if !isNormal(union) || !isNormal(common) || !isNormal(minus) || sum(common) != count || sum(minus) != 6*count {
		t.Errorf("windows apart: %d and %d moments", sum(common), sum(minus))
	}
	union, common, minus, length = results(t, touching, apart)
	if !slices.Equal(union, list(0, 10*count)) || len(common) != count || len(minus) != count || length != 10*count {
		t.Errorf("windows that touch: %d, %d, %d windows, length %d", len(union), len(common), len(minus), length)
	}
	union, common, minus, length = results(t, slices.Repeat(list(5, 9), count), slices.Repeat(list(6, 7), count))
	if !slices.Equal(union, list(5, 9)) || !slices.Equal(common, list(6, 7)) || !slices.Equal(minus, list(5, 6, 7, 9)) || length != 4 {
		t.Errorf("equal windows: %v, %v, %v, length %d", union, common, minus, length)
	}
}
