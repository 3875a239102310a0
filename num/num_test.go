package num_test

import (
	"math"
	"math/big"
	"math/rand"
	"slices"
	"testing"

	"bikeshare/api"
	"bikeshare/num"
)

const most = api.MaxNum

// edges are numbers at and beyond the limits, beside ordinary ones.
var edges = []int{
	0, 1, 2, 3, 7, 10, 1<<25 - 1, 1 << 25, 1<<25 + 1, 1 << 26, most/2 - 1, most / 2, most/2 + 1, most - 1, most, most + 1, math.MaxInt,
	-1, -2, -3, -7, -10, -1<<25 + 1, -1 << 25, -1<<25 - 1, -1 << 26, -most / 2, -most + 1, -most, -most - 1, math.MinInt + 1, math.MinInt,
}

func bigInt(n int) *big.Int { return big.NewInt(int64(n)) }

func validBig(x *big.Int) bool { return x.CmpAbs(bigInt(most)) <= 0 }

func valid(n int) bool { return -most <= n && n <= most }

func natural(n int) bool { return 0 <= n && n <= most }

// expected is what a call returns whose exact result is x, if its arguments are in their ranges.
func expected(inRange bool, x *big.Int) (int, api.Errno) {
	if !inRange {
		return 0, api.ErrRange
	}
	if !validBig(x) {
		return 0, api.ErrOverflow
	}
	return int(x.Int64()), api.OK
}

// someNumber returns numbers of all magnitudes, mostly valid ones.
func someNumber(r *rand.Rand) int {
	if r.Intn(8) == 0 {
		return edges[r.Intn(len(edges))]
	}
	n := int(r.Int63n(most+1)) >> r.Intn(51)
	if r.Intn(2) == 0 {
		return -n
	}
	return n
}

func pairs(visit func(a, b int)) {
	for _, a := range edges {
		for _, b := range edges {
			visit(a, b)
		}
	}
	for a := range 41 {
		for b := range 41 {
			visit(a-20, b-20)
		}
	}
	r := rand.New(rand.NewSource(1))
	for range 20000 {
		visit(someNumber(r), someNumber(r))
	}
}

// P1.1: Add and Mul return the exact result or the error, in both orders of their arguments.
func TestAddAndMulAreExact(t *testing.T) {
	pairs(func(a, b int) {
		inRange := valid(a) && valid(b)
		want, wantErr := expected(inRange, new(big.Int).Add(bigInt(a), bigInt(b)))
		if n, e := num.Add(a, b); n != want || e != wantErr {
			t.Fatalf("Add(%d, %d): %d, error %d, not %d, error %d", a, b, n, e, want, wantErr)
		}
		want, wantErr = expected(inRange, new(big.Int).Mul(bigInt(a), bigInt(b)))
		if n, e := num.Mul(a, b); n != want || e != wantErr {
			t.Fatalf("Mul(%d, %d): %d, error %d, not %d, error %d", a, b, n, e, want, wantErr)
		}
	})
}

// P1.1: the examples of the chapter.
func TestAddAndMulExamples(t *testing.T) {
	if n, e := num.Mul(6, -7); n != -42 || e != api.OK {
		t.Errorf("Mul(6, -7): %d, error %d", n, e)
	}
	if n, e := num.Mul(1<<25, -1<<25); n != -most || e != api.OK {
		t.Errorf("Mul(1 << 25, -1 << 25): %d, error %d", n, e)
	}
	if n, e := num.Mul(1<<26, 1<<25); n != 0 || e != api.ErrOverflow {
		t.Errorf("Mul(1 << 26, 1 << 25): %d, error %d", n, e)
	}
	if n, e := num.Add(most, 1); n != 0 || e != api.ErrOverflow {
		t.Errorf("Add(MaxNum, 1): %d, error %d", n, e)
	}
	if n, e := num.Add(most+1, -1); n != 0 || e != api.ErrRange {
		t.Errorf("Add(MaxNum + 1, -1): %d, error %d", n, e)
	}
}

func repeated(n, times int) []int { return slices.Repeat([]int{n}, times) }

// P1.1: only the result of Sum counts, whatever the partial sums are.
func TestSum(t *testing.T) {
	for i, x := range []struct {
		l []int
		n int
		e api.Errno
	}{
		{nil, 0, api.OK},
		{[]int{}, 0, api.OK},
		{[]int{7}, 7, api.OK},
		{[]int{-3, 5, -9}, -7, api.OK},
		{[]int{most, 1, -1}, most, api.OK},
		{[]int{-most, -1, 1}, -most, api.OK},
		{[]int{most, 1}, 0, api.ErrOverflow},
		{[]int{-1, -most}, 0, api.ErrOverflow},
		{[]int{most, -most - 1}, 0, api.ErrRange},
		{[]int{most + 1, -1}, 0, api.ErrRange},
		// An element that is not valid decides, although the sum of those before it is not valid either.
		{[]int{most, most, math.MinInt}, 0, api.ErrRange},
		{[]int{math.MaxInt}, 0, api.ErrRange},
		{repeated(1, 100000), 100000, api.OK},
		{repeated(-1, 100000), -100000, api.OK},
		// These sums are 1 << 64, -1 << 64 and 3 << 62: computed modulo 1 << 64 they would seem to be valid.
		{repeated(most, 1<<14), 0, api.ErrOverflow},
		{repeated(-most, 1<<14), 0, api.ErrOverflow},
		{append(repeated(most, 1<<14), 5), 0, api.ErrOverflow},
		{append(repeated(most, 20000), repeated(-most, 20000)...), 0, api.OK},
		{append(repeated(-most, 20000), repeated(most, 19999)...), -most, api.OK},
		{append(repeated(-most, 20000), repeated(most, 20001)...), most, api.OK},
		{append(repeated(most, 20000), repeated(-most, 19998)...), 0, api.ErrOverflow},
	} {
		if n, e := num.Sum(x.l); n != x.n || e != x.e {
			t.Errorf("Sum, case %d: %d, error %d, not %d, error %d", i, n, e, x.n, x.e)
		}
	}
}

// P1.1: Sum does not depend on the order of the elements, and does not change them.
func TestSumInEveryOrder(t *testing.T) {
	r := rand.New(rand.NewSource(2))
	for range 5000 {
		l := make([]int, r.Intn(8))
		exact, inRange := new(big.Int), true
		for i := range l {
			l[i] = someNumber(r)
			exact.Add(exact, bigInt(l[i]))
			inRange = inRange && valid(l[i])
		}
		want, wantErr := expected(inRange, exact)
		for range 3 {
			before := slices.Clone(l)
			if n, e := num.Sum(l); n != want || e != wantErr {
				t.Fatalf("Sum(%v): %d, error %d, not %d, error %d", l, n, e, want, wantErr)
			}
			if !slices.Equal(l, before) {
				t.Fatalf("Sum changed %v into %v", before, l)
			}
			r.Shuffle(len(l), func(i, j int) { l[i], l[j] = l[j], l[i] })
		}
	}
}

func checkMulDiv(t *testing.T, a, b, c int) {
	t.Helper()
	want, wantErr := 0, api.ErrRange
	if natural(a) && natural(b) && natural(c) && c > 0 {
		product := new(big.Int).Mul(bigInt(a), bigInt(b))
		want, wantErr = expected(true, product.Div(product, bigInt(c)))
	}
	if n, e := num.MulDiv(a, b, c); n != want || e != wantErr {
		t.Fatalf("MulDiv(%d, %d, %d): %d, error %d, not %d, error %d", a, b, c, n, e, want, wantErr)
	}
}

// P1.2: MulDiv rounds the exact quotient down, for all arguments.
func TestMulDiv(t *testing.T) {
	for _, a := range edges {
		for _, b := range edges {
			for _, c := range edges {
				checkMulDiv(t, a, b, c)
			}
		}
	}
	for a := range 12 {
		for b := range 12 {
			for c := range 14 {
				checkMulDiv(t, a, b, c-1)
			}
		}
	}
	r := rand.New(rand.NewSource(3))
	for range 20000 {
		checkMulDiv(t, someNumber(r), someNumber(r), someNumber(r))
	}
}

// P1.2: the examples of the chapter.
func TestMulDivExamples(t *testing.T) {
	for _, x := range []struct {
		a, b, c, n int
		e          api.Errno
	}{
		{7, 3, 2, 10, api.OK},
		{most, most, most, most, api.OK},
		{most, 3, 2, 0, api.ErrOverflow},
		{most, 2, 3, 750599937895082, api.OK},
		{5, 5, 0, 0, api.ErrRange},
		{most, most, 1, 0, api.ErrOverflow},
	} {
		if n, e := num.MulDiv(x.a, x.b, x.c); n != x.n || e != x.e {
			t.Errorf("MulDiv(%d, %d, %d): %d, error %d", x.a, x.b, x.c, n, e)
		}
	}
}

// P1.2: the result q of Nearest is the only integer with 2 * a - b < 2 * q * b <= 2 * a + b.
func TestNearest(t *testing.T) {
	pairs(func(a, b int) {
		n, e := num.Nearest(a, b)
		if !valid(a) || !natural(b) || b == 0 {
			if n != 0 || e != api.ErrRange {
				t.Fatalf("Nearest(%d, %d): %d, error %d", a, b, n, e)
			}
			return
		}
		twice := new(big.Int).Mul(bigInt(2*b), bigInt(n))
		if e != api.OK || bigInt(2*a-b).Cmp(twice) >= 0 || twice.Cmp(bigInt(2*a+b)) > 0 {
			t.Fatalf("Nearest(%d, %d): %d, error %d", a, b, n, e)
		}
	})
}

// P1.2: the examples of the chapter, and halves on both sides of 0.
func TestNearestExamples(t *testing.T) {
	for _, x := range []struct {
		a, b, n int
		e       api.Errno
	}{
		{5, 2, 3, api.OK}, {-5, 2, -2, api.OK}, {4, 3, 1, api.OK}, {-4, 3, -1, api.OK}, {1, 2, 1, api.OK}, {-1, 2, 0, api.OK}, {-3, 2, -1, api.OK},
		{most, 1, most, api.OK}, {-most, 1, -most, api.OK}, {most / 2, most, 1, api.OK}, {most/2 - 1, most, 0, api.OK}, {-most / 2, most, 0, api.OK}, {-most/2 - 1, most, -1, api.OK},
		{5, 0, 0, api.ErrRange}, {5, -2, 0, api.ErrRange}, {5, most + 1, 0, api.ErrRange}, {-most - 1, 2, 0, api.ErrRange},
	} {
		if n, e := num.Nearest(x.a, x.b); n != x.n || e != x.e {
			t.Errorf("Nearest(%d, %d): %d, error %d", x.a, x.b, n, e)
		}
	}
}
