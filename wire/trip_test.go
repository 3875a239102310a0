package wire_test

import (
	"bytes"
	"math"
	"math/rand"
	"slices"
	"strings"
	"testing"

	"bikeshare/api"
	"bikeshare/wire"
)

// P4.4: Text returns the strings that PutText has encoded, whatever stands before and behind them.
func TestTextReturnsWhatWasPut(t *testing.T) {
	for _, s := range someTexts() {
		for _, b := range prefixes() {
			out := wire.PutText(b, s)
			for _, behind := range [][]byte{nil, {0}, {128}, full(12)} {
				if back, next, e := wire.Text(join(out, behind), len(b)); back != s || next != len(out) || e != api.OK {
					t.Fatalf("Text of %d bytes behind %v: %d bytes, %d, error %d", len(s), b, len(back), next, e)
				}
			}
		}
	}
}

// P4.4: Ints returns the lists that PutInts has encoded, whatever stands before and behind them.
func TestIntsReturnsWhatWasPut(t *testing.T) {
	for _, l := range someLists() {
		for _, b := range prefixes() {
			out := wire.PutInts(b, l)
			for _, behind := range [][]byte{nil, {0}, {128}, full(12)} {
				if back, next, e := wire.Ints(join(out, behind), len(b)); !slices.Equal(back, l) || next != len(out) || e != api.OK {
					t.Fatalf("Ints of %d numbers behind %v: %d numbers, %d, error %d", len(l), b, len(back), next, e)
				}
			}
		}
	}
}

// step is a value that was encoded: it decodes it again and returns whether it is the same, and the index behind it.
type step func(b []byte, at int) (bool, int, api.Errno)

// putSome appends a random value to b, and returns how it is decoded.
func putSome(r *rand.Rand, b []byte) ([]byte, step) {
	switch r.Intn(3) {
	case 0:
		n := someList(r, 1)[0]
		return wire.PutInt(b, n), func(b []byte, at int) (bool, int, api.Errno) {
			m, next, e := wire.Int(b, at)
			return m == n, next, e
		}
	case 1:
		s := someText(r, r.Intn(200))
		return wire.PutText(b, s), func(b []byte, at int) (bool, int, api.Errno) {
			back, next, e := wire.Text(b, at)
			return back == s, next, e
		}
	default:
		l := someList(r, r.Intn(100))
		return wire.PutInts(b, l), func(b []byte, at int) (bool, int, api.Errno) {
			back, next, e := wire.Ints(b, at)
			return slices.Equal(back, l), next, e
		}
	}
}

// P4.4: several values of all kinds, one after the other.
func TestSeveralValues(t *testing.T) {
	r := rand.New(rand.NewSource(6))
	for range 500 {
		var b []byte
		steps, ends := make([]step, r.Intn(30)), []int{0}
		for i := range steps {
			b, steps[i] = putSome(r, b)
			ends = append(ends, len(b))
		}
		at := 0
		for i, decode := range steps {
			same, next, e := decode(b, at)
			if !same || next != ends[i+1] || e != api.OK {
				t.Fatalf("the value %d at %d: the same: %t, %d, not %d, error %d", i, at, same, next, ends[i+1], e)
			}
			at = next
		}
		if at != len(b) {
			t.Fatalf("%d of %d bytes are decoded", at, len(b))
		}
	}
}

// P4.4: long lists and texts take time in proportion to their length.
func TestLongValues(t *testing.T) {
	l := slices.Repeat([]int{0, -1, math.MaxInt, 1 << 20}, 500000)
	if back, _, e := wire.Ints(wire.PutInts(nil, l), 0); !slices.Equal(back, l) || e != api.OK {
		t.Errorf("a list of %d numbers: %d numbers, error %d", len(l), len(back), e)
	}
	s := strings.Repeat("bicycle ", 1<<20)
	if back, _, e := wire.Text(wire.PutText(nil, s), 0); back != s || e != api.OK {
		t.Errorf("a text of %d bytes: %d bytes, error %d", len(s), len(back), e)
	}
}

// cuts visits all proper beginnings of an encoding, each alone and behind other bytes.
func cuts(encoded []byte, visit func(b []byte, at int)) {
	for i := range encoded {
		visit(encoded[:i:i], 0)
		visit(join([]byte{1, 255, 128}, encoded[:i]), 3)
	}
}

// P4.6: the beginnings of the encoding of a number.
func TestIntOfACutEncoding(t *testing.T) {
	for _, n := range numbers() {
		cuts(encoding(n), func(b []byte, at int) {
			if m, next, e := wire.Int(b, at); m != 0 || next != 0 || e != api.ErrShort {
				t.Fatalf("Int(%v, %d), a part of %d: %d, %d, error %d", b, at, n, m, next, e)
			}
		})
	}
}

// P4.6: the beginnings of the encodings of strings and lists.
func TestListsOfCutEncodings(t *testing.T) {
	r := rand.New(rand.NewSource(7))
	for length := range 140 {
		s, l := someText(r, length), someList(r, length)
		cuts(wire.PutText(nil, s), func(b []byte, at int) {
			if back, next, e := wire.Text(b, at); back != "" || next != 0 || e != api.ErrShort {
				t.Fatalf("Text(%v, %d), a part of %q: %q, %d, error %d", b, at, s, back, next, e)
			}
		})
		cuts(wire.PutInts(nil, l), func(b []byte, at int) {
			if back, next, e := wire.Ints(b, at); len(back) != 0 || next != 0 || e != api.ErrShort {
				t.Fatalf("Ints(%v, %d), a part of %v: %v, %d, error %d", b, at, l, back, next, e)
			}
		})
	}
}

// P4.7: decoding changes no byte, neither of b nor behind it, and what is decoded stays when b changes.
func TestDecodedValuesDoNotKeepTheirBytes(t *testing.T) {
	list := []int{5, -5, math.MaxInt, math.MinInt, 0}
	b := wire.PutInts(wire.PutText(wire.PutInt(nil, 1<<40), "bicycle"), list)
	memory := append(join(b), 1, 2, 3)
	before := bytes.Clone(memory)
	_, at, _ := wire.Int(memory[:len(b)], 0)
	s, at, _ := wire.Text(memory[:len(b)], at)
	l, at, _ := wire.Ints(memory[:len(b)], at)
	if at != len(b) || !bytes.Equal(memory, before) {
		t.Fatalf("decoding up to %d changed %v to %v", at, before, memory)
	}
	clear(memory)
	if s != "bicycle" || !slices.Equal(l, list) {
		t.Errorf("after the bytes changed, %q and %v", s, l)
	}
}

// P4.7: two lists that are decoded from the same bytes share no memory.
func TestDecodedListsShareNoMemory(t *testing.T) {
	for length := 1; length < 70; length++ {
		list := someList(rand.New(rand.NewSource(int64(length))), length)
		b := wire.PutInts(nil, list)
		first, _, _ := wire.Ints(b, 0)
		second, _, _ := wire.Ints(b, 0)
		clear(first[:cap(first)])
		if !slices.Equal(second, list) || !bytes.Equal(b, listEncoding(list)) {
			t.Fatalf("a changed result changed %v or %v", second, b)
		}
	}
}
