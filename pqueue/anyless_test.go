package pqueue_test

import (
	"errors"
	"math"
	"math/rand"
	"runtime"
	"slices"
	"testing"
	"weak"

	"bikeshare/pqueue"
)

// noOrders are functions that are no orders, each made anew for a test.
func noOrders() map[string]func(a, b int) bool {
	r, s := rand.New(rand.NewSource(1)), rand.New(rand.NewSource(2))
	turn, calls := 0, 0
	return map[string]func(a, b int) bool{
		"always":        func(a, b int) bool { return true },
		"not greater":   func(a, b int) bool { return a <= b },
		"circle":        func(a, b int) bool { return (b-a+300)%3 == 1 },
		"not equal":     func(a, b int) bool { return a != b },
		"random":        func(a, b int) bool { return r.Intn(2) == 0 },
		"in turn":       func(a, b int) bool { turn++; return turn%2 == 0 },
		"changing":      func(a, b int) bool { calls++; return (a < b) == (calls%100 < 50) },
		"panics":        func(a, b int) bool { panic("less") },
		"panics of nil": func(a, b int) bool { panic(nil) },
		"an error":      func(a, b int) bool { panic(errors.New("less")) },
		"for one value": func(a, b int) bool { return []bool{true, false, true}[a] },
		"at times": func(a, b int) bool {
			if s.Intn(4) == 0 {
				panic(s)
			}
			return a < b
		},
	}
}

// checkConservation makes random calls, and examines that what was pushed is what left.
func checkConservation(t *testing.T, q *pqueue.Queue[int], seed int64) {
	t.Helper()
	r := rand.New(rand.NewSource(seed))
	var in, out []int
	pop := func() {
		first, there := q.Peek()
		x, ok := q.Pop()
		if x != first || ok != there || ok != (len(in) > len(out)) {
			t.Fatalf("Peek: %d, %t; Pop: %d, %t, with %d values", first, there, x, ok, len(in)-len(out))
		}
		if ok {
			out = append(out, x)
		}
	}
	for range 300 {
		if r.Intn(5) < 3 {
			in = append(in, r.Intn(10))
			q.Push(in[len(in)-1])
		} else {
			pop()
		}
		if n := q.Len(); n != len(in)-len(out) {
			t.Fatalf("Len: %d, not %d", n, len(in)-len(out))
		}
	}
	for range q.Len() + 1 {
		pop()
	}
	slices.Sort(in)
	slices.Sort(out)
	if !slices.Equal(in, out) || q.Len() != 0 {
		t.Fatalf("%v were pushed, and %v left", in, out)
	}
}

// P7.2: with a function that is no order, also one that panics, calls end, and no value is lost.
func TestFunctionsThatAreNoOrders(t *testing.T) {
	for name, less := range noOrders() {
		t.Run(name, func(t *testing.T) {
			q := pqueue.New(less)
			for seed := range int64(20) {
				checkConservation(t, q, seed)
			}
		})
	}
}

// P7.2, P7.4: Merge moves all values, whatever the functions are.
func TestMergeWithFunctionsThatAreNoOrders(t *testing.T) {
	for name, less := range noOrders() {
		for otherName, otherLess := range noOrders() {
			t.Run(name+" and "+otherName, func(t *testing.T) {
				q, p := full(less, 1, 2, 2, 3, 0, 9), full(otherLess, 4, 1, 0, 2, 8)
				q.Merge(p)
				if q.Len() != 11 || p.Len() != 0 {
					t.Fatalf("Len of the queues: %d and %d", q.Len(), p.Len())
				}
				l := all(q)
				slices.Sort(l)
				if !slices.Equal(l, []int{0, 0, 1, 1, 2, 2, 2, 3, 4, 8, 9}) {
					t.Errorf("the values are %v", l)
				}
			})
		}
	}
}

// P7.2: numbers among which some are none are no order; none of them is lost.
func TestNoNumbers(t *testing.T) {
	q := pqueue.New(func(a, b float64) bool { return a < b })
	for i := range 100 {
		q.Push(float64(i % 7))
		q.Push(math.NaN())
	}
	none := 0
	for _, x := range all(q) {
		if math.IsNaN(x) {
			none++
		}
	}
	if none != 100 || q.Len() != 0 {
		t.Errorf("%d values that are no numbers left, not 100", none)
	}
}

// P7.2: a function that calls the methods of its queue does not make a call panic, and no value is lost.
func TestFunctionThatCallsItsQueue(t *testing.T) {
	for seed := range int64(500) {
		r := rand.New(rand.NewSource(seed))
		var q *pqueue.Queue[int]
		other := pqueue.New(up)
		balance, inside := map[int]int{}, false
		push := func(x int) {
			balance[x]++
			q.Push(x)
		}
		pop := func() {
			if x, ok := q.Pop(); ok {
				balance[x]--
			}
		}
		q = pqueue.New(func(a, b int) bool {
			if inside {
				return a < b
			}
			inside = true
			for range r.Intn(4) {
				[]func(){func() { push(r.Intn(9)) }, pop, pop, pop, func() { q.Peek() }, func() { q.Merge(q) }, func() { other.Merge(q) }, func() { q.Merge(other) }}[r.Intn(8)]()
			}
			inside = false
			return a < b
		})
		for range 100 {
			if r.Intn(3) > 0 {
				push(r.Intn(9))
			} else {
				pop()
			}
		}
		inside = true
		q.Merge(other)
		checkBalance(t, q, balance)
	}
}

// checkBalance removes all values, and examines that they are as many of each as there must be.
func checkBalance(t *testing.T, q *pqueue.Queue[int], balance map[int]int) {
	t.Helper()
	n := q.Len()
	for _, x := range all(q) {
		balance[x]--
		n--
	}
	if n != 0 {
		t.Fatalf("Len differs by %d from the number of values", n)
	}
	for x, n := range balance {
		if n != 0 {
			t.Fatalf("of the value %d, %d are missing", x, n)
		}
	}
}

// DOC.md, Termination: also a queue that New did not make has no call that panics.
func TestQueueThatNewDidNotMake(t *testing.T) {
	q := new(pqueue.Queue[int])
	if x, ok := q.Pop(); x != 0 || ok || q.Len() != 0 {
		t.Errorf("a queue that New did not make has the value %d, %t", x, ok)
	}
	for seed := range int64(20) {
		checkConservation(t, q, seed)
	}
	q.Push(3)
	p := full(up, 2, 1)
	p.Merge(q)
	if l := all(p); !slices.Equal(l, []int{1, 2, 3}) || q.Len() != 0 {
		t.Errorf("the values leave as %v", l)
	}
}

// LANGUAGE.md, 8: a queue keeps no value that has left it.
func TestLeftValuesAreNotKept(t *testing.T) {
	type large [100]int
	q := pqueue.New(func(a, b *large) bool { return a[0] < b[0] })
	var values []weak.Pointer[large]
	for i := range 20 {
		x := &large{i * 7 % 20}
		values = append(values, weak.Make(x))
		q.Push(x)
	}
	for range 15 {
		q.Pop()
	}
	runtime.GC()
	kept := 0
	for _, x := range values {
		if x.Value() != nil {
			kept++
		}
	}
	if kept != q.Len() {
		t.Errorf("%d values are kept, and %d are in the queue", kept, q.Len())
	}
}
