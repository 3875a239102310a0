package wire_test

import (
	"bytes"
	"math"
	"math/big"
	"math/rand"
	"slices"
	"strings"
	"testing"

	"bikeshare/wire"
)

// full returns n bytes 255, followed by others.
func full(n int, rest ...byte) []byte { return append(bytes.Repeat([]byte{255}, n), rest...) }

// join returns a new list of the bytes of the lists.
func join(lists ...[]byte) []byte { return slices.Concat(lists...) }

// encoding is the encoding of n, computed with numbers of any size as the chapter describes it.
func encoding(n int) []byte {
	z := new(big.Int).Mul(big.NewInt(2), big.NewInt(int64(n)))
	if n < 0 {
		z.Sub(z.Neg(z), big.NewInt(1))
	}
	b := []byte{}
	for {
		group := new(big.Int)
		z.DivMod(z, big.NewInt(128), group)
		if z.Sign() == 0 {
			return append(b, byte(group.Int64()))
		}
		b = append(b, byte(128+group.Int64()))
	}
}

func textEncoding(s string) []byte { return join(encoding(len(s)), []byte(s)) }

func listEncoding(l []int) []byte {
	lists := [][]byte{encoding(len(l))}
	for _, n := range l {
		lists = append(lists, encoding(n))
	}
	return join(lists...)
}

// numbers returns the numbers around the powers of two and their negatives, the ends of the ranges of integers, and random numbers of all magnitudes.
func numbers() []int {
	l := []int{math.MaxInt, math.MinInt, math.MaxInt - 1, math.MinInt + 1, math.MaxInt32, math.MinInt32, math.MaxUint32}
	for k := range 63 {
		for d := range 7 {
			l = append(l, 1<<k+d-3, -1<<k+d-3)
		}
	}
	r := rand.New(rand.NewSource(1))
	for range 3000 {
		n := int(r.Uint64() >> r.Intn(64))
		l = append(l, n, -n, ^n)
	}
	return l
}

// someText returns a text of arbitrary bytes.
func someText(r *rand.Rand, length int) string {
	b := make([]byte, length)
	r.Read(b)
	return string(b)
}

// someList returns a list of numbers of all magnitudes.
func someList(r *rand.Rand, length int) []int {
	l := make([]int, length)
	for i := range l {
		l[i] = int(r.Uint64()) >> r.Intn(64)
	}
	return l
}

// someTexts returns texts whose lengths lie around those at which the encoding of the length grows, and texts whose characters are longer than a byte.
func someTexts() []string {
	l := []string{"", "a", "hi", "\x00", "\xff", "\x80\x00\x80", "\u00e4\u20ac\U0001f6b2", "a\u0301", "\xed\xa0\x80", strings.Repeat("\u00e4", 40), strings.Repeat("\u20ac", 64), strings.Repeat("\xff", 64), strings.Repeat("\x80", 12)}
	r := rand.New(rand.NewSource(2))
	for _, length := range []int{3, 31, 32, 62, 63, 64, 65, 127, 128, 129, 255, 256, 257, 8190, 8191, 8192, 8193, 65535, 65536, 1<<20 - 1, 1 << 20} {
		l = append(l, someText(r, length))
	}
	return l
}

// someLists returns lists whose lengths lie around those at which the encoding of the length grows.
func someLists() [][]int {
	l := [][]int{nil, {}, {0}, {-1}, {0, -1}, {0, -1, 64}, {0, 0, 0}, {math.MinInt, math.MaxInt}, {math.MaxInt, 0, math.MinInt, -1}, numbers()}
	r := rand.New(rand.NewSource(3))
	for _, length := range []int{3, 31, 32, 62, 63, 64, 65, 127, 128, 129, 255, 256, 257, 8191, 8192, 8193, 65536} {
		l = append(l, someList(r, length), make([]int, length))
	}
	return l
}

// prefixes returns byte sequences to which something is appended.
func prefixes() [][]byte {
	room := append(make([]byte, 0, 100), 1, 2, 3)
	return [][]byte{nil, {}, {0}, {9}, {127, 128, 255}, full(9), full(12), bytes.Repeat([]byte{7}, 1000), room, room[1:2], make([]byte, 0, 100)}
}

// P4.1: the examples of the chapter and others, worked out by hand.
func TestPutInt(t *testing.T) {
	for _, c := range []struct {
		n    int
		want []byte
	}{
		{0, []byte{0}}, {-1, []byte{1}}, {1, []byte{2}}, {-2, []byte{3}}, {2, []byte{4}}, {63, []byte{126}}, {-64, []byte{127}}, {64, []byte{128, 1}}, {-65, []byte{129, 1}}, {65, []byte{130, 1}},
		{150, []byte{172, 2}}, {300, []byte{216, 4}}, {8191, []byte{254, 127}}, {-8192, []byte{255, 127}}, {8192, []byte{128, 128, 1}}, {-8193, []byte{129, 128, 1}}, {1 << 20, []byte{128, 128, 128, 1}},
		{1<<62 - 1, append([]byte{254}, full(7, 127)...)}, {-1 << 62, full(8, 127)}, {1 << 62, append(bytes.Repeat([]byte{128}, 9), 1)},
		{math.MaxInt, append([]byte{254}, full(8, 1)...)}, {math.MinInt, full(9, 1)},
	} {
		if b := wire.PutInt(nil, c.n); !bytes.Equal(b, c.want) {
			t.Errorf("PutInt(nil, %d): %v, not %v", c.n, b, c.want)
		}
		if !bytes.Equal(encoding(c.n), c.want) {
			t.Errorf("the tests encode %d as %v", c.n, encoding(c.n))
		}
	}
	if b := wire.PutInt([]byte{9}, 64); !bytes.Equal(b, []byte{9, 128, 1}) {
		t.Errorf("PutInt({9}, 64): %v", b)
	}
}

// P4.1: numbers of all magnitudes, behind other bytes.
func TestPutIntOfAllMagnitudes(t *testing.T) {
	before := prefixes()
	for i, n := range numbers() {
		b := before[i%len(before)]
		if out, want := wire.PutInt(b, n), join(b, encoding(n)); !bytes.Equal(out, want) {
			t.Fatalf("PutInt(%v, %d): %v, not %v", b, n, out, want)
		}
	}
	for n := -70000; n <= 70000; n++ {
		if out := wire.PutInt(nil, n); !bytes.Equal(out, encoding(n)) {
			t.Fatalf("PutInt(nil, %d): %v", n, out)
		}
	}
}

// P4.1: a text follows its length, which counts bytes.
func TestPutText(t *testing.T) {
	for _, c := range []struct {
		b    []byte
		s    string
		want []byte
	}{
		{nil, "", []byte{0}}, {nil, "hi", []byte{4, 104, 105}}, {[]byte{9}, "hi", []byte{9, 4, 104, 105}}, {[]byte{9, 8}, "", []byte{9, 8, 0}}, {nil, "\u00e4", []byte{4, 195, 164}}, {nil, "\xff\x00", []byte{4, 255, 0}},
	} {
		if b := wire.PutText(c.b, c.s); !bytes.Equal(b, c.want) {
			t.Errorf("PutText(%v, %q): %v, not %v", c.b, c.s, b, c.want)
		}
	}
	for _, s := range someTexts() {
		for _, b := range prefixes() {
			if out := wire.PutText(b, s); !bytes.Equal(out, join(b, textEncoding(s))) {
				t.Fatalf("PutText of %d bytes behind %v: %.60q", len(s), b, out)
			}
		}
	}
}

// P4.1: the numbers of a list follow its length, in order.
func TestPutInts(t *testing.T) {
	for _, c := range []struct {
		b    []byte
		l    []int
		want []byte
	}{
		{nil, nil, []byte{0}}, {nil, []int{}, []byte{0}}, {[]byte{9, 8}, nil, []byte{9, 8, 0}}, {nil, []int{0, -1}, []byte{4, 0, 1}}, {nil, []int{-1, 0}, []byte{4, 1, 0}}, {[]byte{9}, []int{0, -1, 64}, []byte{9, 6, 0, 1, 128, 1}},
	} {
		if b := wire.PutInts(c.b, c.l); !bytes.Equal(b, c.want) {
			t.Errorf("PutInts(%v, %v): %v, not %v", c.b, c.l, b, c.want)
		}
	}
	for _, l := range someLists() {
		for _, b := range prefixes() {
			if out := wire.PutInts(b, l); !bytes.Equal(out, join(b, listEncoding(l))) {
				t.Fatalf("PutInts of %d numbers behind %v: %.60v", len(l), b, out)
			}
		}
	}
}

// P4.6: the encoding has at most k bytes exactly for the numbers from -2^(7k-1) to 2^(7k-1) - 1, and never more than ten.
func TestSizes(t *testing.T) {
	size := func(n int) int { return len(wire.PutInt(nil, n)) }
	for k := 1; k <= 9; k++ {
		limit := 1 << (7*k - 1)
		for _, n := range []int{-limit, limit - 1} {
			if size(n) != k {
				t.Errorf("%d has %d bytes, not %d", n, size(n), k)
			}
		}
		for _, n := range []int{-limit - 1, limit} {
			if size(n) != k+1 {
				t.Errorf("%d has %d bytes, not %d", n, size(n), k+1)
			}
		}
	}
	for _, n := range numbers() {
		s := size(n)
		if s < 1 || s > 10 {
			t.Fatalf("%d has %d bytes", n, s)
		}
		for k := 1; k <= 9; k++ {
			limit := 1 << (7*k - 1)
			if inside := -limit <= n && n <= limit-1; inside != (s <= k) {
				t.Fatalf("%d has %d bytes", n, s)
			}
		}
	}
}

// put is a call that appends the encoding want.
type put struct {
	name string
	put  func(b []byte) []byte
	want []byte
}

func puts() []put {
	list := []int{5, -5, 1 << 40}
	return []put{
		{"PutInt(0)", func(b []byte) []byte { return wire.PutInt(b, 0) }, encoding(0)},
		{"PutInt(64)", func(b []byte) []byte { return wire.PutInt(b, 64) }, encoding(64)},
		{"PutInt(MinInt)", func(b []byte) []byte { return wire.PutInt(b, math.MinInt) }, encoding(math.MinInt)},
		{"PutText of none", func(b []byte) []byte { return wire.PutText(b, "") }, textEncoding("")},
		{"PutText", func(b []byte) []byte { return wire.PutText(b, "bicycle") }, textEncoding("bicycle")},
		{"PutInts of none", func(b []byte) []byte { return wire.PutInts(b, nil) }, listEncoding(nil)},
		{"PutInts", func(b []byte) []byte { return wire.PutInts(b, list) }, listEncoding(list)},
	}
}

// P4.7: neither b nor the memory behind it changes, and the result has memory of its own, whatever room is behind b.
func TestPutsHaveTheirOwnMemory(t *testing.T) {
	for _, x := range puts() {
		for length := range 40 {
			for _, room := range []int{0, 1, 2, 3, 9, 10, 11, 16, 50, 1000} {
				memory := bytes.Repeat([]byte{77}, length+room)
				b := memory[:length]
				out := x.put(b)
				if !bytes.Equal(out, join(bytes.Repeat([]byte{77}, length), x.want)) {
					t.Fatalf("%s behind %d bytes with room for %d: %v", x.name, length, room, out)
				}
				clear(out[:cap(out)])
				if !bytes.Equal(memory, bytes.Repeat([]byte{77}, length+room)) {
					t.Fatalf("%s behind %d bytes with room for %d changed b, or shares its memory", x.name, length, room)
				}
				out = x.put(b)
				clear(memory)
				if !bytes.Equal(out, join(bytes.Repeat([]byte{77}, length), x.want)) {
					t.Fatalf("%s behind %d bytes with room for %d keeps b", x.name, length, room)
				}
			}
		}
	}
}

// P4.7: two encodings that are appended to the same b do not disturb one another, also if b is a result with room behind it.
func TestPutsDoNotDisturbOneAnother(t *testing.T) {
	for _, x := range puts() {
		for _, y := range puts() {
			for length := range 40 {
				b := wire.PutText(nil, strings.Repeat("k", length))
				start := bytes.Clone(b)
				first := x.put(b)
				second := y.put(b)
				if !bytes.Equal(first, join(start, x.want)) || !bytes.Equal(second, join(start, y.want)) || !bytes.Equal(b, start) {
					t.Fatalf("%s and %s behind %d bytes: %v and %v", x.name, y.name, len(b), first, second)
				}
				clear(first[:cap(first)])
				if !bytes.Equal(second, join(start, y.want)) || !bytes.Equal(b, start) {
					t.Fatalf("%s and %s behind %d bytes share memory", x.name, y.name, len(b))
				}
			}
		}
	}
}

// P4.7: PutInts changes no number of its list, nor what is behind it.
func TestPutIntsLeavesItsListAlone(t *testing.T) {
	memory := []int{1, -2, math.MaxInt, math.MinInt, 5, 6}
	before := slices.Clone(memory)
	wire.PutInts([]byte{1}, memory[:4])
	if !slices.Equal(memory, before) {
		t.Errorf("PutInts changed %v to %v", before, memory)
	}
}
