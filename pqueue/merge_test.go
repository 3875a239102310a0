package pqueue_test

import (
	"math/rand"
	"slices"
	"testing"

	"bikeshare/pqueue"
)

// merge merges p into b, in the words of the chapter: p.Pop is called, and the result pushed, until p is empty.
func (b both[T]) merge(p both[T]) {
	b.q.Merge(p.q)
	for x, ok := p.l.pop(); ok; x, ok = p.l.pop() {
		b.l.push(x)
	}
}

// P7.4: the example of the chapter.
func TestMergeExample(t *testing.T) {
	up := func(a, b item) bool { return a.key < b.key }
	down := func(a, b item) bool { return a.key > b.key }
	q := full(up, item{1, 0}, item{3, 0})
	p := full(down, item{2, 1}, item{3, 1}, item{1, 1})
	q.Merge(p)
	if p.Len() != 0 || q.Len() != 5 {
		t.Errorf("Len of the queues: %d and %d", q.Len(), p.Len())
	}
	if l := all(q); !slices.Equal(l, []item{{1, 0}, {1, 1}, {2, 1}, {3, 0}, {3, 1}}) {
		t.Errorf("the values leave as %v", l)
	}
}

// P7.4: all pairs of short queues, with all pairs of orders; both are used further.
func TestMergeOfAllShortQueues(t *testing.T) {
	for name, less := range orders {
		for otherName, otherLess := range orders {
			t.Run(name+" and "+otherName, func(t *testing.T) {
				for split := range 6 {
					choices(5, 3, func(keys []int) {
						b, p := newBoth(less), newBoth(otherLess)
						for i, key := range keys {
							if i < split {
								b.push(item{key, i})
							} else {
								p.push(item{key, i})
							}
						}
						checkMerge(t, b, p)
					})
				}
			})
		}
	}
}

// checkMerge merges p into b, pushes values into both, and merges b into p.
func checkMerge(t *testing.T, b, p both[item]) {
	t.Helper()
	b.merge(p)
	b.check(t)
	p.check(t)
	for i := range 2 {
		p.push(item{i, 100 + i})
		b.push(item{1 - i, 200 + i})
	}
	b.pop(t)
	p.merge(b)
	b.empty(t)
	p.empty(t)
}

// P7.4: values that p would return in another sequence than that of their pushes keep the sequence in which p would return them.
func TestMergeKeepsTheSequenceOfTheOther(t *testing.T) {
	q := full(orders["all equal"], item{5, 0})
	p := full(orders["down"], item{2, 1}, item{9, 2}, item{4, 3}, item{9, 4})
	q.Merge(p)
	q.Push(item{7, 5})
	if l := all(q); !slices.Equal(l, []item{{5, 0}, {9, 2}, {9, 4}, {4, 3}, {2, 1}, {7, 5}}) {
		t.Errorf("the values leave as %v", l)
	}
}

// P7.4: values of p that have left are not merged.
func TestMergeOfTheRest(t *testing.T) {
	q, p := full(up, 5), full(up, 1, 9, 3)
	p.Pop()
	q.Merge(p)
	if l := all(q); !slices.Equal(l, []int{3, 5, 9}) {
		t.Errorf("the values leave as %v", l)
	}
}

// P7.4: random calls and merges of several queues with different orders.
func TestRandomMerges(t *testing.T) {
	for seed := range int64(300) {
		r := rand.New(rand.NewSource(seed))
		var queues []both[item]
		for _, name := range []string{"up", "down", "halves", "all equal", "odd first"} {
			queues = append(queues, newBoth(orders[name]))
		}
		for i := range 150 {
			b, p := queues[r.Intn(len(queues))], queues[r.Intn(len(queues))]
			switch kind := r.Intn(20); {
			case kind < 14:
				b.push(item{r.Intn(6), i})
			case kind < 18:
				b.pop(t)
			case b == p:
				b.q.Merge(p.q)
			default:
				b.merge(p)
				p.check(t)
			}
			b.check(t)
		}
		for _, b := range queues {
			b.empty(t)
		}
	}
}

// P7.4: queues with very many values, and empty ones.
func TestMergeOfManyValues(t *testing.T) {
	const n = 100000
	q, p := pqueue.New(up), pqueue.New(func(a, b int) bool { return a > b })
	for i := range n {
		q.Push(2 * i)
		p.Push(2*i + 1)
	}
	empty := pqueue.New(up)
	q.Merge(empty)
	q.Merge(p)
	q.Merge(p)
	empty.Merge(q)
	if empty.Len() != 2*n || q.Len() != 0 || p.Len() != 0 {
		t.Fatalf("Len of the queues: %d, %d, %d", empty.Len(), q.Len(), p.Len())
	}
	for i, x := range all(empty) {
		if x != i {
			t.Fatalf("value %d is %d", i, x)
		}
	}
}

// P7.4, P7.5: Merge of a queue with itself, with nil, and of nil has no effect.
func TestMergeWithoutEffect(t *testing.T) {
	q := full(orders["up"], item{3, 0}, item{1, 1}, item{3, 2}, item{2, 3}, item{1, 4})
	var none *pqueue.Queue[item]
	q.Merge(q)
	q.Merge(nil)
	q.Merge(none)
	none.Merge(q)
	none.Merge(none)
	none.Merge(nil)
	if n := q.Len(); n != 5 {
		t.Errorf("Len: %d, not 5", n)
	}
	if l := all(q); !slices.Equal(l, []item{{1, 1}, {1, 4}, {2, 3}, {3, 0}, {3, 2}}) {
		t.Errorf("the values leave as %v", l)
	}
	q.Merge(q)
	if q.Len() != 0 {
		t.Errorf("Len of an empty queue that was merged with itself: %d", q.Len())
	}
}

// P7.5: New(nil) is nil, for all types; its methods return zero values.
func TestNil(t *testing.T) {
	checkNil[int](t, 4)
	checkNil[string](t, "x")
	checkNil[*int](t, new(int))
	checkNil[item](t, item{1, 2})
	checkNil[any](t, 5)
	checkNil[[2]bool](t, [2]bool{true, true})
	if pqueue.New(up) == nil {
		t.Error("New with an order is nil")
	}
}

func checkNil[T comparable](t *testing.T, x T) {
	t.Helper()
	if pqueue.New[T](nil) != nil {
		t.Error("New(nil) is not nil")
	}
	var zero T
	var q *pqueue.Queue[T]
	p := full(func(a, b T) bool { return false }, x)
	for range 2 {
		q.Push(x)
		q.Merge(p)
		if y, ok := q.Pop(); y != zero || ok {
			t.Errorf("Pop of nil: %v, %t", y, ok)
		}
		if y, ok := q.Peek(); y != zero || ok {
			t.Errorf("Peek of nil: %v, %t", y, ok)
		}
		if q.Len() != 0 {
			t.Errorf("Len of nil: %d", q.Len())
		}
	}
	if y, ok := p.Pop(); y != x || !ok || p.Len() != 0 {
		t.Errorf("a queue that was merged into nil: %v, %t, Len %d", y, ok, p.Len())
	}
}
