package wire_test

import (
	"bytes"
	"math"
	"math/big"
	"math/rand"
	"slices"
	"testing"

	"bikeshare/api"
	"bikeshare/wire"
)

// places returns indices of b, and others around them and far away.
func places(b []byte) []int {
	l := []int{math.MinInt, math.MinInt + 1, -1 << 32, -10, math.MaxInt, math.MaxInt - 1, 1 << 32, len(b) + 10}
	for at := -2; at <= len(b)+2; at++ {
		l = append(l, at)
	}
	return l
}

// wantInt is what Int returns, in the steps in which the chapter describes it, with numbers of any size.
func wantInt(b []byte, at int) (int, int, api.Errno) {
	if at < 0 || at > len(b) {
		return 0, 0, api.ErrRange
	}
	last := slices.IndexFunc(b[at:], func(c byte) bool { return c < 128 })
	if last >= 10 || last < 0 && len(b)-at >= 10 {
		return 0, 0, api.ErrForm
	}
	if last < 0 {
		return 0, 0, api.ErrShort
	}
	z := new(big.Int)
	for i := last; i >= 0; i-- {
		z.Mul(z, big.NewInt(128))
		z.Add(z, big.NewInt(int64(b[at+i]%128)))
	}
	if z.BitLen() > 64 {
		return 0, 0, api.ErrForm
	}
	half, odd := z.DivMod(z, big.NewInt(2), new(big.Int))
	if odd.Sign() != 0 {
		half.Sub(half.Neg(half), big.NewInt(1))
	}
	n := int(half.Int64())
	if !bytes.Equal(encoding(n), b[at:at+last+1]) {
		return 0, 0, api.ErrForm
	}
	return n, at + last + 1, api.OK
}

// checkInt compares Int with wantInt, and examines P4.5: what was decoded has the bytes up to next as its encoding.
func checkInt(t *testing.T, b []byte, at int) {
	t.Helper()
	n, next, e := wire.Int(b, at)
	if want, wantNext, wantError := wantInt(b, at); n != want || next != wantNext || e != wantError {
		t.Fatalf("Int(%v, %d): %d, %d, error %d, not %d, %d, error %d", b, at, n, next, e, want, wantNext, wantError)
	}
	if e == api.OK && !bytes.Equal(wire.PutInt(nil, n), b[at:next]) {
		t.Fatalf("Int(%v, %d): %d, which has another encoding", b, at, n)
	}
}

// P4.2: the examples of the chapter and others, worked out by hand.
func TestInt(t *testing.T) {
	for _, c := range []struct {
		b        []byte
		at, n, k int
		e        api.Errno
	}{
		{[]byte{0}, 0, 0, 1, api.OK}, {[]byte{1}, 0, -1, 1, api.OK}, {[]byte{2}, 0, 1, 1, api.OK}, {[]byte{3}, 0, -2, 1, api.OK}, {[]byte{126}, 0, 63, 1, api.OK}, {[]byte{127}, 0, -64, 1, api.OK}, {[]byte{128, 1}, 0, 64, 2, api.OK},
		{[]byte{9, 128, 1}, 1, 64, 3, api.OK}, {[]byte{128, 1, 128}, 0, 64, 2, api.OK}, {[]byte{128, 1, 0}, 1, -1, 2, api.OK}, {[]byte{128, 128, 1}, 0, 8192, 3, api.OK}, {[]byte{255, 127}, 0, -8192, 2, api.OK},
		{append([]byte{254}, full(8, 1)...), 0, math.MaxInt, 10, api.OK}, {full(9, 1), 0, math.MinInt, 10, api.OK}, {full(10, 1), 1, math.MinInt, 11, api.OK}, {full(9, 1, 255), 0, math.MinInt, 10, api.OK}, {full(8, 127), 0, -1 << 62, 9, api.OK},

		{nil, -1, 0, 0, api.ErrRange}, {nil, 1, 0, 0, api.ErrRange}, {[]byte{1, 2}, 3, 0, 0, api.ErrRange}, {[]byte{1, 2}, -1, 0, 0, api.ErrRange}, {full(20), 21, 0, 0, api.ErrRange}, {full(20), -1, 0, 0, api.ErrRange},
		{nil, 0, 0, 0, api.ErrShort}, {[]byte{}, 0, 0, 0, api.ErrShort}, {[]byte{1, 2}, 2, 0, 0, api.ErrShort}, {[]byte{128}, 0, 0, 0, api.ErrShort}, {[]byte{255}, 0, 0, 0, api.ErrShort}, {[]byte{0, 128, 128}, 1, 0, 0, api.ErrShort}, {full(9), 0, 0, 0, api.ErrShort}, {full(10), 1, 0, 0, api.ErrShort}, {bytes.Repeat([]byte{128}, 9), 0, 0, 0, api.ErrShort},
		{[]byte{128, 0}, 0, 0, 0, api.ErrForm}, {[]byte{129, 0}, 0, 0, 0, api.ErrForm}, {[]byte{255, 0}, 0, 0, 0, api.ErrForm}, {[]byte{129, 128, 0}, 0, 0, 0, api.ErrForm}, {[]byte{128, 129, 0}, 0, 0, 0, api.ErrForm}, {[]byte{128, 0, 1}, 0, 0, 0, api.ErrForm},
		{full(9, 2), 0, 0, 0, api.ErrForm}, {full(9, 3), 0, 0, 0, api.ErrForm}, {full(9, 127), 0, 0, 0, api.ErrForm}, {full(9, 0), 0, 0, 0, api.ErrForm}, {append(bytes.Repeat([]byte{128}, 9), 0), 0, 0, 0, api.ErrForm}, {append(bytes.Repeat([]byte{128}, 9), 2), 0, 0, 0, api.ErrForm}, {append(bytes.Repeat([]byte{128}, 9), 64), 0, 0, 0, api.ErrForm},
		{full(10), 0, 0, 0, api.ErrForm}, {full(10, 1), 0, 0, 0, api.ErrForm}, {full(12), 1, 0, 0, api.ErrForm}, {full(11), 1, 0, 0, api.ErrForm}, {bytes.Repeat([]byte{128}, 10), 0, 0, 0, api.ErrForm}, {append(bytes.Repeat([]byte{128}, 10), 0), 0, 0, 0, api.ErrForm}, {append(bytes.Repeat([]byte{128}, 10), 1), 0, 0, 0, api.ErrForm}, {full(1000), 5, 0, 0, api.ErrForm}, {full(1000), 990, 0, 0, api.ErrForm}, {full(1000), 991, 0, 0, api.ErrShort},
		// The ten bytes count from the index on, not behind an encoding that is complete.
		{append([]byte{0}, full(10)...), 0, 0, 1, api.OK}, {append([]byte{255, 3}, full(12)...), 0, -256, 2, api.OK},
	} {
		if n, next, e := wire.Int(c.b, c.at); n != c.n || next != c.k || e != c.e {
			t.Errorf("Int(%v, %d): %d, %d, error %d, not %d, %d, error %d", c.b, c.at, n, next, e, c.n, c.k, c.e)
		}
		checkInt(t, c.b, c.at)
	}
}

// shortSequences visits all sequences of up to two bytes, with the indices of them and others.
func shortSequences(visit func(b []byte, at int)) {
	for _, at := range places(nil) {
		visit(nil, at)
	}
	for first := range 256 {
		b := []byte{byte(first)}
		for _, at := range places(b) {
			visit(b, at)
		}
		for second := range 256 {
			for at := -1; at <= 3; at++ {
				visit([]byte{byte(first), byte(second)}, at)
			}
		}
	}
}

// P4.2, P4.5: all sequences of up to two bytes, at all indices, and all with a third one of a few kinds.
func TestIntOfShortSequences(t *testing.T) {
	shortSequences(func(b []byte, at int) {
		checkInt(t, b, at)
		for _, c := range []byte{0, 1, 127, 128, 255} {
			checkInt(t, join(b, []byte{c}), at)
		}
	})
}

// arrangements visits all sequences of at most length of these bytes.
func arrangements(letters []byte, length int, visit func(b []byte)) {
	var add func(b []byte)
	add = func(b []byte) {
		visit(b)
		if len(b) == length {
			return
		}
		for _, c := range letters {
			add(append(b, c))
		}
	}
	add(make([]byte, 0, length))
}

// P4.2, P4.5: all sequences of bytes that lie at the ends of their ranges.
func TestIntOfAllArrangements(t *testing.T) {
	arrangements([]byte{0, 1, 127, 128, 255}, 6, func(b []byte) {
		checkInt(t, b, 0)
		checkInt(t, b, len(b)/2)
	})
}

// P4.2, P4.5: sequences around the longest encodings, with all kinds of ends, and something before or behind them.
func TestIntOfLongSequences(t *testing.T) {
	for length := range 14 {
		for _, c := range []byte{128, 129, 254, 255} {
			start := bytes.Repeat([]byte{c}, length)
			for last := range 256 {
				for _, behind := range [][]byte{nil, {0}, {1}, {128}, {255, 1}, full(10)} {
					checkInt(t, join(start, []byte{byte(last)}, behind), 0)
					checkInt(t, join([]byte{1, 255}, start, []byte{byte(last)}, behind), 2)
				}
				for _, first := range []byte{128, 255} {
					checkInt(t, join([]byte{first}, start, []byte{byte(last)}), 0)
				}
			}
		}
	}
}

// P4.2, P4.5: random sequences at all indices.
func TestIntOfRandomSequences(t *testing.T) {
	r := rand.New(rand.NewSource(4))
	for range 3000 {
		b := make([]byte, r.Intn(30))
		rare := 2 + r.Intn(12)
		for i := range b {
			b[i] = byte(r.Intn(128))
			if r.Intn(rare) > 0 {
				b[i] += 128
			}
		}
		for _, at := range places(b) {
			checkInt(t, b, at)
		}
	}
}

// P4.4: Int returns the numbers that PutInt has encoded, whatever stands before and behind them.
func TestIntReturnsWhatWasPut(t *testing.T) {
	before := prefixes()
	for i, n := range numbers() {
		b := before[i%len(before)]
		out := wire.PutInt(b, n)
		for _, behind := range [][]byte{nil, {0}, {128}, full(12)} {
			if m, next, e := wire.Int(join(out, behind), len(b)); m != n || next != len(out) || e != api.OK {
				t.Fatalf("Int of %d behind %v: %d, %d, error %d", n, b, m, next, e)
			}
		}
	}
}
