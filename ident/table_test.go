package ident_test

import (
	"math"
	"math/rand"
	"slices"
	"strconv"
	"strings"
	"testing"

	"bikeshare/api"
	"bikeshare/ident"
)

// most is how many identifiers a table can have.
const most = 512

// wrong are strings that are no identifiers.
var wrong = []string{"", "-", "9z", "Old", "old-", "a b", "a\x00", "\xff", strings.Repeat("a", 33)}

// names returns n different identifiers, each with the prefix.
func names(prefix string, n int) []string {
	l := make([]string, n)
	for i := range l {
		l[i] = prefix + strconv.Itoa(i)
	}
	return l
}

// table is New of identifiers that must be accepted.
func table(t *testing.T, l ...string) *ident.Table {
	t.Helper()
	x, e := ident.New(l...)
	if x == nil || e != api.OK {
		t.Fatalf("New(%q): a table: %t, error %d", l, x != nil, e)
	}
	return x
}

// checkTable examines that x has exactly the identifiers want, in this order, at their numbers.
func checkTable(t *testing.T, x *ident.Table, want []string) {
	t.Helper()
	if n := x.Len(); n != len(want) {
		t.Fatalf("Len() is %d, not %d", n, len(want))
	}
	for i, s := range want {
		if name, e := x.Name(i); name != s || e != api.OK {
			t.Fatalf("Name(%d): %q, error %d, not %q", i, name, e, s)
		}
		if n, ok := x.Find(s); n != i || !ok {
			t.Fatalf("Find(%q): %d, %t, not %d", s, n, ok, i)
		}
	}
	for _, i := range []int{-1, -2, -512, math.MinInt, len(want), len(want) + 1, most, most + 1, 1 << 32, math.MaxInt} {
		if i >= 0 && i < len(want) {
			continue
		}
		if s, e := x.Name(i); s != "" || e != api.ErrNone {
			t.Fatalf("Name(%d): %q, error %d", i, s, e)
		}
	}
	for _, s := range append([]string{"absent", "absent9"}, wrong...) {
		if n, ok := x.Find(s); n != 0 || ok {
			t.Fatalf("Find(%q): %d, %t", s, n, ok)
		}
	}
}

func checkAdd(t *testing.T, x *ident.Table, s string, want int, wantError api.Errno) {
	t.Helper()
	if n, e := x.Add(s); n != want || e != wantError {
		t.Fatalf("Add(%q): %d, error %d, not %d, %d", s, n, e, want, wantError)
	}
}

// P3.2: the first example of the chapter.
func TestExample(t *testing.T) {
	x := table(t, "harbour", "old-town")
	checkTable(t, x, []string{"harbour", "old-town"})
	checkAdd(t, x, "harbour", 0, api.ErrTwice)
	checkAdd(t, x, "park", 2, api.OK)
	checkTable(t, x, []string{"harbour", "old-town", "park"})
}

// P3.2: New with no, one and as many identifiers as a table can have.
func TestNew(t *testing.T) {
	checkTable(t, table(t), nil)
	checkTable(t, table(t, []string{}...), nil)
	// Two calls without arguments return two tables.
	x, y := table(t), table(t)
	checkAdd(t, x, "a", 0, api.OK)
	checkTable(t, x, []string{"a"})
	checkTable(t, y, nil)
	for _, l := range [][]string{{"a"}, {longest}, {"b", "a", "c"}, {"a", "aa", "a-a", "a0"}, names("m", 511), names("zone-", most)} {
		checkTable(t, table(t, l...), l)
	}
}

// P3.2: New returns the error of the first identifier that has one.
func TestNewErrors(t *testing.T) {
	full := names("m", most)
	for _, c := range []struct {
		l []string
		e api.Errno
	}{
		{[]string{"a", "-", "a"}, api.ErrName}, {[]string{"a", "b", "a"}, api.ErrTwice}, {[]string{"a", "a", "-"}, api.ErrTwice}, {[]string{"-", "-"}, api.ErrName}, {[]string{"a", "-", "-"}, api.ErrName},
		{[]string{""}, api.ErrName}, {[]string{"a", ""}, api.ErrName}, {[]string{"a", "a"}, api.ErrTwice}, {[]string{"a", "A"}, api.ErrName},
		{append(slices.Clone(full), "n"), api.ErrFull}, {append(slices.Clone(full), "m0"), api.ErrTwice}, {append(slices.Clone(full), "m511"), api.ErrTwice}, {append(slices.Clone(full), "-"), api.ErrName},
		{append(slices.Clone(full), "n", "m0", "-"), api.ErrFull}, {append(slices.Clone(full), "-", "n"), api.ErrName}, {append(slices.Clone(full), "m0", "n"), api.ErrTwice}, {append([]string{"-"}, full...), api.ErrName},
		{names("m", 100000), api.ErrFull},
	} {
		if x, e := ident.New(c.l...); x != nil || e != c.e {
			t.Errorf("New of %d strings: a table: %t, error %d, not %d", len(c.l), x != nil, e, c.e)
		}
	}
	for _, s := range wrong {
		if x, e := ident.New("a", s); x != nil || e != api.ErrName {
			t.Errorf("New(\"a\", %q): a table: %t, error %d", s, x != nil, e)
		}
	}
}

// P3.2: New neither changes nor keeps its list.
func TestNewDoesNotKeepItsList(t *testing.T) {
	l := names("m", 5)[:3]
	behind := l[:5]
	x := table(t, l...)
	checkAdd(t, x, "added", 3, api.OK)
	if !slices.Equal(behind, names("m", 5)) {
		t.Errorf("New and Add changed the list to %q", behind)
	}
	l[0], l[1], l[2] = "other", "-", "m0"
	checkTable(t, x, []string{"m0", "m1", "m2", "added"})
}

// P3.2: tables with the same identifiers share nothing.
func TestTablesAreSeparate(t *testing.T) {
	l := []string{"a", "b", "c"}
	x, y := table(t, l...), table(t, l...)
	checkAdd(t, x, "d", 3, api.OK)
	checkAdd(t, y, "e", 3, api.OK)
	checkAdd(t, y, "d", 4, api.OK)
	checkTable(t, x, []string{"a", "b", "c", "d"})
	checkTable(t, y, []string{"a", "b", "c", "e", "d"})
}

// P3.2, P3.3: a table fills up, and the numbers stay.
func TestAddFillsATable(t *testing.T) {
	x, l := table(t), names("zone-", most)
	for i, s := range l {
		checkTable(t, x, l[:i])
		if n, ok := x.Find(s); n != 0 || ok {
			t.Fatalf("Find(%q): %d, %t before it was added", s, n, ok)
		}
		checkAdd(t, x, s, i, api.OK)
	}
	checkTable(t, x, l)
}

// P3.2, P3.4: the errors of Add in their order, in a table with one identifier and in a full one; none of them changes anything.
func TestAddErrors(t *testing.T) {
	x := table(t, "a")
	checkAdd(t, x, "a", 0, api.ErrTwice)
	for _, s := range wrong {
		checkAdd(t, x, s, 0, api.ErrName)
	}
	checkTable(t, x, []string{"a"})
	checkAdd(t, x, "b", 1, api.OK)

	l := names("m", most)
	x = table(t, l...)
	for range 3 {
		checkAdd(t, x, "absent", 0, api.ErrFull)
		checkTable(t, x, l)
		checkAdd(t, x, "absent9", 0, api.ErrFull)
		for _, s := range wrong {
			checkAdd(t, x, s, 0, api.ErrName)
		}
		for _, s := range l {
			checkAdd(t, x, s, 0, api.ErrTwice)
		}
		checkTable(t, x, l)
	}
}

// P3.4: an identifier that was refused because of another error is not remembered: it is added with the next number later.
func TestAddAfterErrors(t *testing.T) {
	x, l := table(t, "m0"), names("m", most)
	for i := 1; i < most; i++ {
		checkAdd(t, x, l[i]+"-", 0, api.ErrName)
		checkAdd(t, x, l[i-1], 0, api.ErrTwice)
		checkTable(t, x, l[:i])
		checkAdd(t, x, l[i], i, api.OK)
	}
	checkTable(t, x, l)
}

// P3.2: Find compares whole strings, byte by byte.
func TestFindComparesWholeStrings(t *testing.T) {
	l := []string{"a", "ab", "abc", "a-b", "a0", "a00", "b", longest}
	x := table(t, l...)
	checkTable(t, x, l)
	for _, s := range []string{"", "A", "aB", "a ", " a", "a\x00", "ac", "bc", "c", "a-", "a--b", "0", "00", "a000", "ba", longest[:31], longest + "z", longest[1:]} {
		if n, ok := x.Find(s); n != 0 || ok {
			t.Errorf("Find(%q): %d, %t", s, n, ok)
		}
	}
}

// P3.3: Find is the inverse of Name, for all numbers and for all identifiers of a small set.
func TestFindInvertsName(t *testing.T) {
	r := rand.New(rand.NewSource(2))
	all := names("m", 40)
	for range 200 {
		l := slices.Clone(all)
		r.Shuffle(len(l), func(i, j int) { l[i], l[j] = l[j], l[i] })
		x := table(t, l[:r.Intn(len(l)+1)]...)
		for i := range 45 {
			if s, e := x.Name(i - 2); e == api.OK {
				if n, ok := x.Find(s); n != i-2 || !ok {
					t.Fatalf("Name(%d) is %q, but Find(%q): %d, %t", i-2, s, s, n, ok)
				}
			}
		}
		found := 0
		for _, s := range all {
			if n, ok := x.Find(s); ok {
				found++
				if name, e := x.Name(n); name != s || e != api.OK {
					t.Fatalf("Find(%q) is %d, but Name(%d): %q, error %d", s, n, n, name, e)
				}
			}
		}
		if found != x.Len() {
			t.Fatalf("%d identifiers are found in a table with %d", found, x.Len())
		}
	}
}

// wantAdd is what Add returns for s if a table has the identifiers l.
func wantAdd(l []string, s string) (int, api.Errno) {
	if !isIdentifier(s) {
		return 0, api.ErrName
	}
	if slices.Contains(l, s) {
		return 0, api.ErrTwice
	}
	if len(l) == most {
		return 0, api.ErrFull
	}
	return len(l), api.OK
}

// P3.2, P3.3, P3.4: random calls, compared with a plain list.
func TestRandomCalls(t *testing.T) {
	r := rand.New(rand.NewSource(3))
	for round := range 12 {
		l := names("m", []int{0, 1, 2, 30, 505, most}[round%6])
		x := table(t, l...)
		for range 2000 {
			s := "m" + strconv.Itoa(r.Intn(700))
			if r.Intn(4) == 0 {
				s = wrong[r.Intn(len(wrong))]
			}
			i := r.Intn(720) - 10
			switch r.Intn(4) {
			case 0:
				want, wantError := wantAdd(l, s)
				checkAdd(t, x, s, want, wantError)
				if wantError == api.OK {
					l = append(l, s)
				}
			case 1:
				want := slices.Index(l, s)
				if n, ok := x.Find(s); n != max(want, 0) || ok != (want >= 0) {
					t.Fatalf("Find(%q): %d, %t, not %d", s, n, ok, want)
				}
			case 2:
				if name, e := x.Name(i); i >= 0 && i < len(l) && (name != l[i] || e != api.OK) || (i < 0 || i >= len(l)) && (name != "" || e != api.ErrNone) {
					t.Fatalf("Name(%d): %q, error %d", i, name, e)
				}
			default:
				if n := x.Len(); n != len(l) {
					t.Fatalf("Len() is %d, not %d", n, len(l))
				}
			}
		}
		checkTable(t, x, l)
	}
}

// P3.4: a nil table has no identifiers and accepts none.
func TestNilTable(t *testing.T) {
	var x *ident.Table
	for range 2 {
		for _, s := range append([]string{"a", longest}, wrong...) {
			checkAdd(t, x, s, 0, api.ErrNil)
			if n, ok := x.Find(s); n != 0 || ok {
				t.Errorf("Find(%q): %d, %t", s, n, ok)
			}
		}
		for _, i := range []int{0, 1, -1, most, math.MinInt, math.MaxInt} {
			if s, e := x.Name(i); s != "" || e != api.ErrNil {
				t.Errorf("Name(%d): %q, error %d", i, s, e)
			}
		}
		if n := x.Len(); n != 0 {
			t.Errorf("Len() is %d", n)
		}
	}
}

// P3.2: no call panics on a table that New did not make; it is empty.
func TestTableThatNewDidNotMake(t *testing.T) {
	x := &ident.Table{}
	checkTable(t, x, nil)
	checkAdd(t, x, "-", 0, api.ErrName)
	checkAdd(t, x, "a", 0, api.OK)
	checkAdd(t, x, "a", 0, api.ErrTwice)
	checkAdd(t, x, "b", 1, api.OK)
	checkTable(t, x, []string{"a", "b"})
}
