package pqueue_test

import (
	"cmp"
	"math/rand"
	"slices"
	"strings"
	"testing"

	"bikeshare/pqueue"
)

// item is a value that the orders of these tests compare by its key alone; its name tells it from others.
type item struct{ key, name int }

// orders are the orders that are tested, each with values that are equal in it.
var orders = map[string]func(a, b item) bool{
	"up":          func(a, b item) bool { return a.key < b.key },
	"down":        func(a, b item) bool { return a.key > b.key },
	"odd first":   func(a, b item) bool { return a.key%2 > b.key%2 },
	"halves":      func(a, b item) bool { return a.key/2 < b.key/2 },
	"all equal":   func(a, b item) bool { return false },
	"key 1 first": func(a, b item) bool { return a.key == 1 && b.key != 1 },
}

// list is a queue in the words of the chapter: values in the sequence of their pushes.
type list[T any] struct {
	less   func(a, b T) bool
	values []T
}

func (l *list[T]) push(x T) { l.values = append(l.values, x) }

// peek returns the first value, and its index in the sequence of pushes.
func (l *list[T]) peek() (x T, i int, ok bool) {
	for i, x := range l.values {
		if !slices.ContainsFunc(l.values, func(y T) bool { return l.less(y, x) }) {
			return x, i, true
		}
	}
	return x, 0, false
}

func (l *list[T]) pop() (T, bool) {
	x, i, ok := l.peek()
	if ok {
		l.values = slices.Delete(l.values, i, i+1)
	}
	return x, ok
}

// both is a queue with the list that says what it must return.
type both[T comparable] struct {
	q *pqueue.Queue[T]
	l *list[T]
}

func newBoth[T comparable](less func(a, b T) bool) both[T] {
	return both[T]{pqueue.New(less), &list[T]{less: less}}
}

func (b both[T]) push(x T) {
	b.q.Push(x)
	b.l.push(x)
}

// check compares Len and Peek; Peek is called twice, since it must not change anything.
func (b both[T]) check(t *testing.T) {
	t.Helper()
	if n := b.q.Len(); n != len(b.l.values) {
		t.Fatalf("Len is %d with the values %v", n, b.l.values)
	}
	want, _, wantOK := b.l.peek()
	for range 2 {
		if x, ok := b.q.Peek(); x != want || ok != wantOK {
			t.Fatalf("Peek with the values %v: %v, %t, not %v, %t", b.l.values, x, ok, want, wantOK)
		}
	}
}

func (b both[T]) pop(t *testing.T) {
	t.Helper()
	values := slices.Clone(b.l.values)
	want, wantOK := b.l.pop()
	if x, ok := b.q.Pop(); x != want || ok != wantOK {
		t.Fatalf("Pop with the values %v: %v, %t, not %v, %t", values, x, ok, want, wantOK)
	}
}

// empty removes all values, and one more that is not there.
func (b both[T]) empty(t *testing.T) {
	t.Helper()
	for range len(b.l.values) + 1 {
		b.check(t)
		b.pop(t)
	}
	b.check(t)
}

// all returns the values of a queue in the sequence in which they leave.
func all[T any](q *pqueue.Queue[T]) []T {
	var out []T
	for x, ok := q.Pop(); ok; x, ok = q.Pop() {
		out = append(out, x)
	}
	return out
}

func up(a, b int) bool { return a < b }

// full returns a queue with these values.
func full[T any](less func(a, b T) bool, l ...T) *pqueue.Queue[T] {
	q := pqueue.New(less)
	for _, x := range l {
		q.Push(x)
	}
	return q
}

// choices visits all lists of a length with numbers from 0 to n - 1.
func choices(length, n int, visit func(l []int)) {
	l := make([]int, length)
	for {
		visit(l)
		i := 0
		for ; i < length; i++ {
			if l[i]++; l[i] < n {
				break
			}
			l[i] = 0
		}
		if i == length {
			return
		}
	}
}

// P7.1: the examples of the chapter.
func TestExamples(t *testing.T) {
	q := full(up, 2, 1, 2)
	for _, want := range []int{1, 2, 2} {
		if x, ok := q.Pop(); x != want || !ok {
			t.Errorf("Pop: %d, %t, not %d", x, ok, want)
		}
	}
	for range 2 {
		if x, ok := q.Pop(); x != 0 || ok {
			t.Errorf("Pop of an empty queue: %d, %t", x, ok)
		}
	}
	words := full(func(a, b string) bool { return len(a) < len(b) }, "pear", "fig", "plum", "kiwi", "date", "lime")
	if l := all(words); !slices.Equal(l, []string{"fig", "pear", "plum", "kiwi", "date", "lime"}) {
		t.Errorf("words by length: %q", l)
	}
}

// P7.1 to P7.3: all sequences of calls with few values.
func TestAllSequencesOfCalls(t *testing.T) {
	const pop = 3
	for name, less := range orders {
		t.Run(name, func(t *testing.T) {
			choices(8, pop+1, func(calls []int) {
				b := newBoth(less)
				for i, call := range calls {
					if call == pop {
						b.pop(t)
					} else {
						b.push(item{call, i})
					}
					b.check(t)
				}
				b.empty(t)
			})
		})
	}
}

// P7.1: all sequences of pushes of as many values as a tree with three complete levels has, and all of different values.
func TestAllSequencesOfPushes(t *testing.T) {
	for name, less := range orders {
		t.Run(name, func(t *testing.T) {
			choices(7, 4, func(keys []int) {
				b := newBoth(less)
				for i, key := range keys {
					b.push(item{key, i})
				}
				b.empty(t)
			})
		})
	}
	choices(6, 6, func(keys []int) {
		b := newBoth(up)
		for _, key := range keys {
			b.push(key)
		}
		b.empty(t)
	})
}

// P7.1 to P7.3: long random sequences of calls; the queue becomes empty in between.
func TestRandomCalls(t *testing.T) {
	for name, less := range orders {
		t.Run(name, func(t *testing.T) {
			for seed := range int64(60) {
				r := rand.New(rand.NewSource(seed))
				b := newBoth(less)
				for i := range 400 {
					growing := i/100%2 == 0
					if r.Intn(10) < 7 == growing {
						b.push(item{r.Intn(1 + int(seed)), i})
					} else {
						b.pop(t)
					}
					b.check(t)
				}
				b.empty(t)
			}
		})
	}
}

// P7.1, P7.2: a queue with very many values, in sequences that are sorted, reversed, equal and random, is a stable sort.
func TestManyValues(t *testing.T) {
	const n = 200000
	for name, key := range map[string]func(i int, r *rand.Rand) int{
		"sorted":   func(i int, _ *rand.Rand) int { return i },
		"reversed": func(i int, _ *rand.Rand) int { return n - i },
		"equal":    func(int, *rand.Rand) int { return 5 },
		"waves":    func(i int, _ *rand.Rand) int { return i % 1000 },
		"random":   func(_ int, r *rand.Rand) int { return r.Int() },
		"few keys": func(_ int, r *rand.Rand) int { return r.Intn(100) },
	} {
		t.Run(name, func(t *testing.T) {
			r := rand.New(rand.NewSource(7))
			q := pqueue.New(orders["up"])
			want := make([]item, n)
			for i := range want {
				want[i] = item{key(i, r), i}
				q.Push(want[i])
			}
			slices.SortStableFunc(want, func(a, b item) int { return cmp.Compare(a.key, b.key) })
			if q.Len() != n {
				t.Fatalf("Len: %d", q.Len())
			}
			if l := all(q); !slices.Equal(l, want) {
				t.Error("the values do not leave in their order")
			}
			if q.Len() != 0 {
				t.Errorf("Len of the queue when all values have left: %d", q.Len())
			}
		})
	}
}

// P7.1: a value that is pushed again stands behind those that are equal in the order and were pushed in between.
func TestPushedAgain(t *testing.T) {
	q := full(orders["all equal"], item{0, 0}, item{0, 1}, item{0, 2})
	var names []int
	for range 9 {
		x, ok := q.Pop()
		if !ok {
			t.Fatal("the queue is empty")
		}
		names = append(names, x.name)
		q.Push(x)
	}
	if !slices.Equal(names, []int{0, 1, 2, 0, 1, 2, 0, 1, 2}) {
		t.Errorf("values in turn: %v", names)
	}
}

// P7.2: the same value is contained as often as it was pushed.
func TestSameValue(t *testing.T) {
	x, y := new(int), new(int)
	*y = 1
	byNumber := func(a, b *int) bool { return *a < *b }
	q := full(byNumber, y, x, x, y, x)
	if n := q.Len(); n != 5 {
		t.Errorf("Len: %d, not 5", n)
	}
	if l := all(q); !slices.Equal(l, []*int{x, x, x, y, y}) {
		t.Errorf("the values are %v", l)
	}
	for n := range 50 {
		same := full(up, slices.Repeat([]int{-3}, n)...)
		if l := all(same); !slices.Equal(l, slices.Repeat([]int{-3}, n)) {
			t.Fatalf("of %d equal values, %v left", n, l)
		}
	}
}

// P7.1 to P7.3: values of all kinds of types; that of an empty queue is the zero value.
func TestTypes(t *testing.T) {
	checkType(t, strings.Compare, "b", "a", "", "ab")
	checkType(t, func(a, b float64) int { return int(a - b) }, 3, -7, 100)
	checkType(t, func(a, b [2]int) int { return a[1] - b[1] }, [2]int{1, 5}, [2]int{9, 2}, [2]int{-4, 5})
	checkType(t, func(a, b *item) int { return a.key - b.key }, &item{3, 0}, &item{1, 1}, &item{3, 2})
	checkType(t, func(a, b any) int { return a.(int) - b.(int) }, any(8), any(2), any(5))
	checkType(t, func(a, b struct{}) int { return 0 }, struct{}{}, struct{}{})
	checkType(t, func(a, b bool) int {
		if a == b {
			return 0
		}
		if a {
			return -1
		}
		return 1
	}, false, true, false)
	checkType(t, func(a, b chan int) int { return cap(a) - cap(b) }, make(chan int, 3), make(chan int, 1), nil)
	lists := full(func(a, b []int) bool { return len(a) < len(b) }, []int{1, 2}, nil, []int{3}, []int{4, 5})
	if l := slices.Concat(all(lists)...); !slices.Equal(l, []int{3, 1, 2, 4, 5}) {
		t.Errorf("lists by length: %v", l)
	}
	calls := full(func(a, b func() int) bool { return a() < b() }, func() int { return 6 }, func() int { return 4 })
	if f, ok := calls.Pop(); !ok || f() != 4 {
		t.Error("the first one of two functions is not there")
	}
}

func checkType[T comparable](t *testing.T, compare func(a, b T) int, values ...T) {
	t.Helper()
	b := newBoth(func(x, y T) bool { return compare(x, y) < 0 })
	b.check(t)
	b.pop(t)
	for _, x := range values {
		b.push(x)
	}
	b.empty(t)
}

// P7.2: queues with the same order have values of their own, also those that take the place of others.
func TestQueuesAreSeparate(t *testing.T) {
	q, p := full(up, 3, 1, 2), full(up, 6, 5)
	q.Pop()
	p.Push(4)
	q.Push(7)
	p.Pop()
	if l, other := all(q), all(p); !slices.Equal(l, []int{2, 3, 7}) || !slices.Equal(other, []int{5, 6}) {
		t.Errorf("two queues return %v and %v", l, other)
	}
}

// P7.3: Peek is Pop if nothing is pushed in between, however often it is called.
func TestPeek(t *testing.T) {
	q := full(up, 4, 2, 8, 2, 6)
	for _, want := range []int{2, 2, 4, 6, 8} {
		for range 3 {
			if x, ok := q.Peek(); x != want || !ok {
				t.Fatalf("Peek: %d, %t, not %d", x, ok, want)
			}
		}
		if x, ok := q.Pop(); x != want || !ok {
			t.Fatalf("Pop behind Peek: %d, %t, not %d", x, ok, want)
		}
	}
	if x, ok := q.Peek(); x != 0 || ok {
		t.Errorf("Peek of an empty queue: %d, %t", x, ok)
	}
}
