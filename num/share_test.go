package num_test

import (
	"math/big"
	"math/rand"
	"slices"
	"testing"

	"bikeshare/api"
	"bikeshare/num"
)

// P1.3: results and errors of Share, worked out by hand.
func TestShare(t *testing.T) {
	for i, x := range []struct {
		total   int
		weights []int
		parts   []int
		e       api.Errno
	}{
		{7, []int{5, 0, 2, 3}, []int{4, 0, 1, 2}, api.OK},
		{10, []int{1, 1, 1}, []int{4, 3, 3}, api.OK},
		{11, []int{1, 1, 1}, []int{4, 4, 3}, api.OK},
		{1, []int{1, 2, 2}, []int{0, 1, 0}, api.OK},
		{5, []int{9}, []int{5}, api.OK},
		{6, []int{1, 2, 3}, []int{1, 2, 3}, api.OK},
		{0, []int{3, 4}, []int{0, 0}, api.OK},
		{0, []int{0, 0}, []int{0, 0}, api.OK},
		{3, []int{0, 0, 1}, []int{0, 0, 3}, api.OK},
		{most, []int{most - 1, 1}, []int{most - 1, 1}, api.OK},
		{most, []int{1, 1, 1}, []int{375299968947542, 375299968947541, 375299968947541}, api.OK},
		{most, []int{0, most}, []int{0, most}, api.OK},
		{3, []int{0, 0}, nil, api.ErrEmpty},
		{-1, []int{1}, nil, api.ErrRange},
		{most + 1, []int{1}, nil, api.ErrRange},
		{1, nil, nil, api.ErrRange},
		{0, nil, nil, api.ErrRange},
		{0, []int{}, nil, api.ErrRange},
		{5, []int{1, -1}, nil, api.ErrRange},
		{5, []int{1, most + 1}, nil, api.ErrRange},
		{5, []int{most, 1}, nil, api.ErrOverflow},
		{0, []int{most, 1}, nil, api.ErrOverflow},
		// An element out of its range comes before the sum of the weights.
		{5, []int{most, most, -1}, nil, api.ErrRange},
		{-1, []int{most, most}, nil, api.ErrRange},
		{-1, []int{0}, nil, api.ErrRange},
	} {
		if parts, e := num.Share(x.total, x.weights); !slices.Equal(parts, x.parts) || e != x.e {
			t.Errorf("Share, case %d: %v, error %d", i, parts, e)
		}
	}
}

// P1.3: there are at most MaxRecords weights.
func TestShareOfManyWeights(t *testing.T) {
	parts, e := num.Share(api.MaxRecords+2, slices.Repeat([]int{1}, api.MaxRecords))
	want := append([]int{2, 2}, slices.Repeat([]int{1}, api.MaxRecords-2)...)
	if !slices.Equal(parts, want) || e != api.OK {
		t.Errorf("MaxRecords weights: %v, error %d", parts, e)
	}
	if parts, e := num.Share(0, slices.Repeat([]int{1}, api.MaxRecords+1)); parts != nil || e != api.ErrRange {
		t.Errorf("one weight too many: %v, error %d", parts, e)
	}
	if parts, e := num.Share(0, slices.Repeat([]int{most}, api.MaxRecords)); parts != nil || e != api.ErrOverflow {
		t.Errorf("the largest weights: %v, error %d", parts, e)
	}
}

// P1.3: the weights are not changed, and the parts are not the weights.
func TestShareLeavesItsArgumentAlone(t *testing.T) {
	weights := []int{5, 0, 2, 3}
	first, _ := num.Share(7, weights)
	if !slices.Equal(weights, []int{5, 0, 2, 3}) {
		t.Errorf("Share changed the weights into %v", weights)
	}
	first[0] = 99
	if second, _ := num.Share(7, weights); weights[0] != 5 || !slices.Equal(second, []int{4, 0, 1, 2}) {
		t.Errorf("a changed result changed %v or %v", weights, second)
	}
}

// largestRemainders divides a total step by step: each unit that is left goes to the first part with the largest remainder that has none yet.
func largestRemainders(total int, weights []int) []int {
	whole := new(big.Int)
	for _, w := range weights {
		whole.Add(whole, bigInt(w))
	}
	parts, rests := make([]int, len(weights)), make([]*big.Int, len(weights))
	left := total
	for i, w := range weights {
		quotient, rest := new(big.Int).DivMod(new(big.Int).Mul(bigInt(total), bigInt(w)), whole, new(big.Int))
		parts[i], rests[i] = int(quotient.Int64()), rest
		left -= parts[i]
	}
	for ; left > 0; left-- {
		best := 0
		for i := range rests {
			if rests[i].Cmp(rests[best]) > 0 {
				best = i
			}
		}
		parts[best]++
		rests[best] = bigInt(-1)
	}
	return parts
}

// checkParts examines the properties of P1.3: the parts add up, each is the exact part rounded down or up, and exact ones stay.
func checkParts(t *testing.T, total int, weights, parts []int) {
	t.Helper()
	sum, whole := 0, 0
	for i := range parts {
		sum += parts[i]
		whole += weights[i]
	}
	if sum != total {
		t.Fatalf("the parts %v of %d add up to %d", parts, total, sum)
	}
	for i := range parts {
		// The distance is whole times that of the part from the exact one: less than one unit, which is whole.
		distance := new(big.Int).Mul(bigInt(parts[i]), bigInt(whole))
		distance.Sub(distance, new(big.Int).Mul(bigInt(total), bigInt(weights[i])))
		if distance.CmpAbs(bigInt(whole)) >= 0 {
			t.Fatalf("the part %d of %d among %v is %d", i, total, weights, parts[i])
		}
	}
}

// checkFair examines the properties of P1.4.
func checkFair(t *testing.T, total int, weights, parts []int) {
	t.Helper()
	for i := range parts {
		for j := range parts {
			if weights[i] > weights[j] && parts[i] < parts[j] {
				t.Fatalf("%d among %v is %v: the greater weight %d has less than %d", total, weights, parts, i, j)
			}
			if weights[i] == weights[j] && i < j && (parts[i] < parts[j] || parts[i] > parts[j]+1) {
				t.Fatalf("%d among %v is %v: the equal weights %d and %d", total, weights, parts, i, j)
			}
		}
	}
}

func shareOrFail(t *testing.T, total int, weights []int) []int {
	t.Helper()
	parts, e := num.Share(total, weights)
	if e != api.OK || len(parts) != len(weights) {
		t.Fatalf("Share(%d, %v): %v, error %d", total, weights, parts, e)
	}
	return parts
}

// someShares visits totals and weights that can be shared: all small ones, and numbers of all magnitudes.
func someShares(visit func(total int, weights []int)) {
	for total := range 14 {
		for code := 1; code < 5*5*5*5; code++ {
			visit(total, []int{code % 5, code / 5 % 5, code / 25 % 5, code / 125})
		}
	}
	r := rand.New(rand.NewSource(4))
	for range 3000 {
		weights := make([]int, 1+r.Intn(20))
		top := 1 + most/len(weights)>>r.Intn(46)
		for i := range weights {
			weights[i] = r.Intn(top)
			if i > 0 && r.Intn(3) == 0 {
				weights[i] = weights[r.Intn(i)]
			}
		}
		weights[0] = max(weights[0], 1)
		visit(int(r.Int63n(most+1))>>r.Intn(51), weights)
	}
}

// P1.3: the parts are those of the method of the largest remainder.
func TestPartsAreExactPartsRounded(t *testing.T) {
	someShares(func(total int, weights []int) {
		parts := shareOrFail(t, total, weights)
		checkParts(t, total, weights, parts)
		if want := largestRemainders(total, weights); !slices.Equal(parts, want) {
			t.Fatalf("Share(%d, %v): %v, not %v", total, weights, parts, want)
		}
	})
}

// P1.4: greater weights have no smaller parts, and equal ones equal parts but for one unit, which the earlier one has.
func TestSharesAreFair(t *testing.T) {
	someShares(func(total int, weights []int) {
		checkFair(t, total, weights, shareOrFail(t, total, weights))
	})
	// With many equal remainders, an unstable order would give the units to later parts.
	weights := slices.Repeat([]int{3, 5, 3}, 170)
	for total := range 600 {
		checkFair(t, total, weights, shareOrFail(t, total, weights))
	}
}
