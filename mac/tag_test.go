package mac_test

import (
	"math"
	"math/rand"
	"slices"
	"testing"

	"bikeshare/api"
	"bikeshare/mac"
	"bikeshare/wire"
)

// encoding returns the length of l and its numbers, one after another.
func encoding(l []int) []byte {
	b := wire.PutInt(nil, len(l))
	for _, n := range l {
		b = slices.Concat(b, wire.PutInt(nil, n))
	}
	return b
}

// someNumbers returns numbers around those at which encodings grow, and at the ends of the integers.
func someNumbers() []int {
	l := []int{0, 1, -1, 2, -2, 3, math.MaxInt, math.MinInt, math.MaxInt - 1, math.MinInt + 1, api.MaxTime, api.MaxNum, -api.MaxNum}
	for bit := 5; bit < 63; bit++ {
		l = append(l, 1<<bit-1, 1<<bit, -1<<bit, -1<<bit-1)
	}
	return l
}

// checkTag compares Tag with the sum of the encoding.
func checkTag(t *testing.T, k api.Key, l []int) {
	t.Helper()
	if n, want := mac.Tag(k, l...), wantSum(k, encoding(l)); n != want {
		t.Fatalf("Tag(%#x, %d numbers %v): %#x, not %#x", k, len(l), l[:min(len(l), 20)], n, want)
	}
}

// P6.2: the examples of the chapter and others, with their encodings worked out by hand.
func TestTag(t *testing.T) {
	for _, c := range []struct {
		l []int
		b []byte
	}{
		{nil, []byte{0}}, {[]int{}, []byte{0}}, {[]int{1, -1}, []byte{4, 2, 1}}, {[]int{0}, []byte{2, 0}}, {[]int{64}, []byte{2, 128, 1}}, {[]int{-64}, []byte{2, 127}}, {[]int{-65}, []byte{2, 129, 1}}, {[]int{0, 0, 0}, []byte{6, 0, 0, 0}},
		{[]int{math.MaxInt}, []byte{2, 254, 255, 255, 255, 255, 255, 255, 255, 255, 1}}, {[]int{math.MinInt}, []byte{2, 255, 255, 255, 255, 255, 255, 255, 255, 255, 1}},
		{make([]int, 64), append([]byte{128, 1}, make([]byte, 64)...)},
	} {
		for _, k := range []api.Key{{}, published, {A: 1}, {B: 1}} {
			if n, want := mac.Tag(k, c.l...), mac.Sum(k, c.b); n != want {
				t.Errorf("Tag(%#x, %v): %#x, not the Sum %#x of %v", k, c.l, n, want, c.b)
			}
			checkTag(t, k, c.l)
		}
	}
	if mac.Tag(published) != mac.Sum(published, []byte{0}) || mac.Tag(published, 1, -1) != mac.Sum(published, []byte{4, 2, 1}) {
		t.Error("numbers that are passed one by one have another Tag than those of a list")
	}
}

// P6.2: all numbers at the ends of encodings, under all kinds of keys, and lists of all lengths.
func TestTagOfAllLists(t *testing.T) {
	r := rand.New(rand.NewSource(6))
	numbers := someNumbers()
	for _, n := range numbers {
		checkTag(t, published, []int{n})
		checkTag(t, api.Key{A: r.Uint64(), B: r.Uint64()}, []int{n, -n, numbers[r.Intn(len(numbers))]})
	}
	for _, k := range someKeys() {
		checkTag(t, k, nil)
		checkTag(t, k, []int{7, -300})
	}
	for length := range 300 {
		l := make([]int, length)
		for i := range l {
			l[i] = numbers[r.Intn(len(numbers))]
		}
		checkTag(t, api.Key{A: r.Uint64(), B: r.Uint64()}, l)
	}
}

// P6.2: Derive is Tag of the number with 0 and with 1.
func TestDerive(t *testing.T) {
	for _, k := range someKeys() {
		for _, n := range someNumbers() {
			want := api.Key{A: mac.Sum(k, encoding([]int{n, 0})), B: mac.Sum(k, encoding([]int{n, 1}))}
			if d := mac.Derive(k, n); d != want {
				t.Fatalf("Derive(%#x, %d): %#x, not %#x", k, n, d, want)
			}
		}
	}
	want := api.Key{A: wantSum(published, []byte{4, 14, 0}), B: wantSum(published, []byte{4, 14, 2})}
	if d := mac.Derive(published, 7); d != want {
		t.Errorf("Derive of 7: %#x, not %#x", d, want)
	}
}

// P6.2: the keys of different numbers, and of a key and its derived ones, are different here.
func TestDerivedKeysDiffer(t *testing.T) {
	seen := map[api.Key]int{published: math.MaxInt}
	for n := -500; n <= 500; n++ {
		for _, k := range []api.Key{mac.Derive(published, n), mac.Derive(mac.Derive(published, n), n)} {
			if other, ok := seen[k]; ok {
				t.Errorf("%d and %d have the key %#x", other, n, k)
			}
			seen[k] = n
		}
	}
}

// P6.3: Tag depends on the numbers alone: not on where they are, on what lies around them, or on the calls before; it leaves them as they are.
func TestTagOfAPartOfMemory(t *testing.T) {
	r := rand.New(rand.NewSource(7))
	numbers := someNumbers()
	for range 2000 {
		memory := make([]int, 20)
		for i := range memory {
			memory[i] = numbers[r.Intn(len(numbers))]
		}
		before := slices.Clone(memory)
		from := r.Intn(len(memory) + 1)
		to := from + r.Intn(len(memory)-from+1)
		k := api.Key{A: r.Uint64(), B: r.Uint64()}
		n := mac.Tag(k, memory[from:to]...)
		if want := mac.Tag(k, slices.Clone(memory[from:to])...); n != want || n != mac.Tag(k, memory[from:to:to]...) {
			t.Fatalf("Tag of %v: %#x, not %#x as elsewhere", memory[from:to], n, want)
		}
		if mac.Derive(k, from) != mac.Derive(k, from) {
			t.Fatalf("the second key that is derived for %d is another one", from)
		}
		if !slices.Equal(memory, before) {
			t.Fatalf("Tag changed its argument")
		}
	}
}

// shortLists returns all lists of at most three of the numbers.
func shortLists(numbers []int) [][]int {
	l := [][]int{nil}
	for from, length := 0, 1; length <= 3; length++ {
		to := len(l)
		for _, shorter := range l[from:to] {
			for _, n := range numbers {
				l = append(l, slices.Concat(shorter, []int{n}))
			}
		}
		from = to
	}
	return l
}

// P6.3: different lists have different encodings, and here also different tags; one list is not taken for another one that has the same bytes with other borders.
func TestTagsDiffer(t *testing.T) {
	encodings, tags := map[string][]int{}, map[uint64][]int{}
	for _, l := range shortLists([]int{0, 1, -1, 2, 3, 63, -64, 64, -65, 127, 128, 8191, 8192, math.MaxInt, math.MinInt}) {
		b := wire.PutInts(nil, l)
		if other, ok := encodings[string(b)]; ok {
			t.Errorf("%v and %v have the encoding %v", other, l, b)
		}
		n := mac.Tag(published, l...)
		if other, ok := tags[n]; ok {
			t.Errorf("%v and %v have the tag %#x", other, l, n)
		}
		encodings[string(b)], tags[n] = l, l
		if back, next, e := wire.Ints(b, 0); !slices.Equal(back, l) || next != len(b) || e != api.OK {
			t.Errorf("the encoding of %v is that of %v, error %d", l, back, e)
		}
	}
}
