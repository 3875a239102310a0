package wire_test

import (
	"bytes"
	"math"
	"math/rand"
	"slices"
	"testing"

	"bikeshare/api"
	"bikeshare/wire"
)

// wantLength is what Int returns for the length of a string or list, or the error of a negative one.
func wantLength(b []byte, at int) (int, int, api.Errno) {
	n, next, e := wantInt(b, at)
	if n < 0 {
		return 0, 0, api.ErrForm
	}
	return n, next, e
}

// wantText is what Text returns, in the steps in which the chapter describes it.
func wantText(b []byte, at int) (string, int, api.Errno) {
	n, next, e := wantLength(b, at)
	if e != api.OK {
		return "", 0, e
	}
	if rest := b[next:]; len(rest) < n {
		return "", 0, api.ErrShort
	}
	return string(b[next : next+n]), next + n, api.OK
}

// wantInts is what Ints returns, in the steps in which the chapter describes it.
func wantInts(b []byte, at int) ([]int, int, api.Errno) {
	n, next, e := wantLength(b, at)
	if e != api.OK {
		return nil, 0, e
	}
	l := []int{}
	for len(l) < n {
		m, behind, e := wantInt(b, next)
		if e != api.OK {
			return nil, 0, e
		}
		l, next = append(l, m), behind
	}
	return l, next, api.OK
}

// checkText compares Text with wantText, and examines P4.5.
func checkText(t *testing.T, b []byte, at int) {
	t.Helper()
	s, next, e := wire.Text(b, at)
	if want, wantNext, wantError := wantText(b, at); s != want || next != wantNext || e != wantError {
		t.Fatalf("Text(%v, %d): %q, %d, error %d, not %q, %d, error %d", b, at, s, next, e, want, wantNext, wantError)
	}
	if e == api.OK && !bytes.Equal(wire.PutText(nil, s), b[at:next]) {
		t.Fatalf("Text(%v, %d): %q, which has another encoding", b, at, s)
	}
}

// checkInts compares Ints with wantInts, and examines P4.5.
func checkInts(t *testing.T, b []byte, at int) {
	t.Helper()
	l, next, e := wire.Ints(b, at)
	if want, wantNext, wantError := wantInts(b, at); !slices.Equal(l, want) || next != wantNext || e != wantError {
		t.Fatalf("Ints(%v, %d): %v, %d, error %d, not %v, %d, error %d", b, at, l, next, e, want, wantNext, wantError)
	}
	if e == api.OK && !bytes.Equal(wire.PutInts(nil, l), b[at:next]) {
		t.Fatalf("Ints(%v, %d): %v, which has another encoding", b, at, l)
	}
}

// P4.3: the examples of the chapter and others, worked out by hand.
func TestText(t *testing.T) {
	for _, c := range []struct {
		b    []byte
		at   int
		s    string
		next int
		e    api.Errno
	}{
		{[]byte{4, 104, 105}, 0, "hi", 3, api.OK}, {[]byte{4, 104, 105, 7}, 0, "hi", 3, api.OK}, {[]byte{9, 4, 104, 105}, 1, "hi", 4, api.OK}, {[]byte{0}, 0, "", 1, api.OK}, {[]byte{0, 65}, 0, "", 1, api.OK}, {[]byte{2, 0}, 0, "\x00", 2, api.OK}, {[]byte{2, 255}, 0, "\xff", 2, api.OK}, {[]byte{4, 195, 164}, 0, "\u00e4", 3, api.OK}, {[]byte{2, 195, 164}, 0, "\xc3", 2, api.OK},
		{append([]byte{24}, full(12)...), 0, string(full(12)), 13, api.OK},
		{[]byte{6, 97, 98}, 0, "", 0, api.ErrShort}, {[]byte{4, 104}, 0, "", 0, api.ErrShort}, {[]byte{2}, 0, "", 0, api.ErrShort}, {nil, 0, "", 0, api.ErrShort}, {[]byte{128}, 0, "", 0, api.ErrShort}, {[]byte{4}, 1, "", 0, api.ErrShort}, {full(9), 0, "", 0, api.ErrShort},
		{[]byte{4}, 2, "", 0, api.ErrRange}, {[]byte{4, 104, 105}, -1, "", 0, api.ErrRange}, {nil, 1, "", 0, api.ErrRange}, {full(12), 13, "", 0, api.ErrRange},
		{[]byte{1}, 0, "", 0, api.ErrForm}, {[]byte{1, 104}, 0, "", 0, api.ErrForm}, {[]byte{3, 104, 105}, 0, "", 0, api.ErrForm}, {[]byte{127, 104}, 0, "", 0, api.ErrForm}, {[]byte{132, 0, 104, 105}, 0, "", 0, api.ErrForm}, {[]byte{128, 0}, 0, "", 0, api.ErrForm}, {full(9, 1), 0, "", 0, api.ErrForm}, {full(9, 2), 0, "", 0, api.ErrForm}, {full(10), 0, "", 0, api.ErrForm},
	} {
		if s, next, e := wire.Text(c.b, c.at); s != c.s || next != c.next || e != c.e {
			t.Errorf("Text(%v, %d): %q, %d, error %d, not %q, %d, error %d", c.b, c.at, s, next, e, c.s, c.next, c.e)
		}
		checkText(t, c.b, c.at)
	}
}

// P4.3: the examples of the chapter and others, worked out by hand.
func TestInts(t *testing.T) {
	for _, c := range []struct {
		b    []byte
		at   int
		l    []int
		next int
		e    api.Errno
	}{
		{[]byte{4, 0, 1}, 0, []int{0, -1}, 3, api.OK}, {[]byte{4, 0, 1, 5}, 0, []int{0, -1}, 3, api.OK}, {[]byte{9, 4, 0, 1}, 1, []int{0, -1}, 4, api.OK}, {[]byte{0}, 0, nil, 1, api.OK}, {[]byte{0, 5}, 0, nil, 1, api.OK}, {[]byte{4, 2, 128, 1, 8}, 0, []int{1, 64}, 4, api.OK}, {[]byte{4, 128, 1, 2, 8}, 0, []int{64, 1}, 4, api.OK},
		{append([]byte{2}, full(9, 1, 7)...), 0, []int{math.MinInt}, 11, api.OK},
		{[]byte{4, 0}, 0, nil, 0, api.ErrShort}, {[]byte{2}, 0, nil, 0, api.ErrShort}, {[]byte{4, 0, 128}, 0, nil, 0, api.ErrShort}, {nil, 0, nil, 0, api.ErrShort}, {[]byte{128}, 0, nil, 0, api.ErrShort}, {[]byte{4}, 1, nil, 0, api.ErrShort}, {full(9), 0, nil, 0, api.ErrShort}, {append([]byte{2}, full(9)...), 0, nil, 0, api.ErrShort},
		{[]byte{4}, 2, nil, 0, api.ErrRange}, {[]byte{4, 0, 1}, -1, nil, 0, api.ErrRange}, {nil, 1, nil, 0, api.ErrRange}, {full(12), 13, nil, 0, api.ErrRange},
		{[]byte{1}, 0, nil, 0, api.ErrForm}, {[]byte{3, 0}, 0, nil, 0, api.ErrForm}, {[]byte{127, 0}, 0, nil, 0, api.ErrForm}, {[]byte{132, 0, 0, 1}, 0, nil, 0, api.ErrForm}, {full(9, 1), 0, nil, 0, api.ErrForm}, {full(9, 2), 0, nil, 0, api.ErrForm}, {full(10), 0, nil, 0, api.ErrForm},
		// The first number with an error decides, also if the list is too long for the bytes that are left.
		{[]byte{4, 128, 0, 1}, 0, nil, 0, api.ErrForm}, {[]byte{4, 1, 128, 0}, 0, nil, 0, api.ErrForm}, {[]byte{126, 128, 0, 1}, 0, nil, 0, api.ErrForm}, {append([]byte{4}, full(10)...), 0, nil, 0, api.ErrForm}, {append([]byte{4, 0}, full(9)...), 0, nil, 0, api.ErrShort}, {append([]byte{6}, full(9, 2, 128)...), 0, nil, 0, api.ErrForm},
		// An error behind the last number does not matter.
		{[]byte{2, 0, 128, 0}, 0, []int{0}, 2, api.OK}, {append([]byte{2, 0}, full(10)...), 0, []int{0}, 2, api.OK},
	} {
		if l, next, e := wire.Ints(c.b, c.at); !slices.Equal(l, c.l) || next != c.next || e != c.e {
			t.Errorf("Ints(%v, %d): %v, %d, error %d, not %v, %d, error %d", c.b, c.at, l, next, e, c.l, c.next, c.e)
		}
		checkInts(t, c.b, c.at)
	}
}

// P4.3: lengths that no memory has room for, with what is there behind them.
func TestGreatLengths(t *testing.T) {
	for _, n := range []int{3, 100, 1 << 16, 1<<31 - 1, 1 << 31, 1 << 32, 1<<32 + 1, 1<<32 + 2, 1 << 34, 1 << 40, 1 << 56, 1 << 60, 1<<61 + 1, 1 << 62, math.MaxInt - 10, math.MaxInt - 1, math.MaxInt} {
		for _, behind := range [][]byte{nil, {2}, {2, 4}, {2, 128}} {
			for _, before := range [][]byte{nil, {0}, full(12)} {
				b := join(before, encoding(n), behind)
				if s, next, e := wire.Text(b, len(before)); s != "" || next != 0 || e != api.ErrShort {
					t.Errorf("Text(%v, %d): %q, %d, error %d", b, len(before), s, next, e)
				}
				if l, next, e := wire.Ints(b, len(before)); len(l) != 0 || next != 0 || e != api.ErrShort {
					t.Errorf("Ints(%v, %d): %v, %d, error %d", b, len(before), l, next, e)
				}
			}
		}
		b := join(encoding(n), []byte{2, 128, 0})
		if l, next, e := wire.Ints(b, 0); len(l) != 0 || next != 0 || e != api.ErrForm {
			t.Errorf("Ints(%v, 0): %v, %d, error %d", b, l, next, e)
		}
	}
}

// P4.3, P4.5: all sequences of up to two bytes, at all indices.
func TestListsOfShortSequences(t *testing.T) {
	shortSequences(func(b []byte, at int) {
		checkText(t, b, at)
		checkInts(t, b, at)
	})
}

// P4.3, P4.5: all sequences of bytes that are small lengths or lie at the ends of their ranges.
func TestListsOfAllArrangements(t *testing.T) {
	arrangements([]byte{0, 1, 2, 4, 6, 127, 128, 255}, 5, func(b []byte) {
		checkText(t, b, 0)
		checkInts(t, b, 0)
		checkText(t, b, len(b)/2)
		checkInts(t, b, len(b)/2)
	})
}

// P4.3, P4.5: random sequences at all indices, with lengths that are often too great by little.
func TestListsOfRandomSequences(t *testing.T) {
	r := rand.New(rand.NewSource(5))
	for range 2000 {
		b := make([]byte, 1+r.Intn(40))
		for i := range b {
			b[i] = byte(r.Intn(2 * len(b)))
			if r.Intn(10) == 0 {
				b[i] = byte(r.Intn(256))
			}
		}
		for _, at := range places(b) {
			checkText(t, b, at)
			checkInts(t, b, at)
		}
	}
}

// P4.3: lists in which each number in turn has an error.
func TestIntsErrorOfEachNumber(t *testing.T) {
	for length := 1; length <= 70; length++ {
		for i := range length {
			for _, wrong := range [][]byte{{128, 0}, full(9, 2), full(10)} {
				b := join(encoding(length), bytes.Repeat([]byte{2}, i), wrong, bytes.Repeat([]byte{2}, length-i-1))
				if l, next, e := wire.Ints(b, 0); len(l) != 0 || next != 0 || e != api.ErrForm {
					t.Fatalf("Ints(%v, 0): %v, %d, error %d", b, l, next, e)
				}
			}
		}
	}
}
