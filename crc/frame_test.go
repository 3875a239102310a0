package crc_test

import (
	"bytes"
	"math"
	"math/rand"
	"slices"
	"testing"

	"bikeshare/api"
	"bikeshare/crc"
	"bikeshare/wire"
)

// join returns a new list of the bytes of the lists.
func join(lists ...[]byte) []byte { return slices.Concat(lists...) }

// tail returns the four bytes of the Sum of b.
func tail(b []byte) []byte {
	sum := wantSum(b)
	return []byte{byte(sum % 256), byte(sum / 256 % 256), byte(sum / 65536 % 256), byte(sum / 16777216)}
}

// frame returns the frame with the content b, as the chapter describes it.
func frame(b []byte) []byte { return join(wire.PutInt(nil, len(b)), b, tail(b)) }

// claim returns a frame with the content b and another length.
func claim(n int, b []byte) []byte { return join(wire.PutInt(nil, n), b, tail(b)) }

// someContents returns contents whose lengths lie around those at which the length of the frame grows, and contents that look like frames.
func someContents() [][]byte {
	l := [][]byte{nil, {0}, []byte("a"), {255}, {0, 0, 0, 0, 0}, {128, 128}, allBytes(), frame(nil), frame([]byte("a")), join(frame([]byte("a")), frame([]byte("b"))), tail(nil), tail([]byte("a"))}
	r := rand.New(rand.NewSource(4))
	for _, length := range []int{2, 3, 4, 5, 31, 32, 62, 63, 64, 65, 127, 128, 129, 255, 256, 8191, 8192, 8193, api.MaxBody - 1, api.MaxBody} {
		l = append(l, someBytes(r, length), make([]byte, length))
	}
	return l
}

// P5.2: the example of the chapter and others, worked out by hand.
func TestSeal(t *testing.T) {
	for _, c := range []struct {
		content string
		want    []byte
	}{
		{"", []byte{0, 0, 0, 0, 0}}, {"a", []byte{2, 97, 0x43, 0xbe, 0xb7, 0xe8}}, {"123456789", []byte("\x12123456789\x26\x39\xf4\xcb")}, {"\x00", []byte{2, 0, 0x8d, 0xef, 0x02, 0xd2}}, {"\xff", []byte{2, 255, 0, 0, 0, 255}},
	} {
		if b, e := crc.Seal([]byte(c.content)); !bytes.Equal(b, c.want) || e != api.OK {
			t.Errorf("Seal(%q): %v, error %d, not %v", c.content, b, e, c.want)
		}
	}
	if b, e := crc.Seal(nil); !bytes.Equal(b, make([]byte, 5)) || e != api.OK {
		t.Errorf("Seal(nil): %v, error %d", b, e)
	}
}

// P5.2: contents of all sizes, up to the longest ones.
func TestSealOfAllSizes(t *testing.T) {
	for _, content := range someContents() {
		if b, e := crc.Seal(content); !bytes.Equal(b, frame(content)) || e != api.OK {
			t.Errorf("Seal of %d bytes: %d bytes, error %d", len(content), len(b), e)
		}
	}
	for _, length := range []int{api.MaxBody + 1, api.MaxBody + 2, 2 * api.MaxBody, 1 << 20} {
		if b, e := crc.Seal(make([]byte, length)); len(b) != 0 || e != api.ErrFull {
			t.Errorf("Seal of %d bytes: %d bytes, error %d", length, len(b), e)
		}
	}
}

// P5.2: a frame shares no memory with its content or another frame, and the content and what lies behind it stay as they are.
func TestFramesShareNoMemory(t *testing.T) {
	for _, content := range someContents() {
		memory := join(content, make([]byte, 20))
		before := bytes.Clone(memory)
		first, _ := crc.Seal(memory[:len(content)])
		second, _ := crc.Seal(memory[:len(content)])
		clear(first[:cap(first)])
		if !bytes.Equal(memory, before) {
			t.Fatalf("the frame of %d bytes shares memory with its content", len(content))
		}
		clear(memory)
		if !bytes.Equal(second, frame(content)) {
			t.Fatalf("the frame of %d bytes shares memory with another one or its content", len(content))
		}
	}
}

// wantOpen is what Open returns, in the steps in which the chapter describes it.
func wantOpen(b []byte, at int) ([]byte, int, api.Errno) {
	n, from, e := wire.Int(b, at)
	if e != api.OK {
		return nil, 0, e
	}
	if n < 0 || n > 65536 {
		return nil, 0, api.ErrForm
	}
	if rest := b[from:]; len(rest) < n+4 {
		return nil, 0, api.ErrShort
	}
	if !bytes.Equal(b[from+n:from+n+4], tail(b[from:from+n])) {
		return nil, 0, api.ErrSum
	}
	return b[from : from+n], from + n + 4, api.OK
}

// checkOpen compares Open with wantOpen.
func checkOpen(t *testing.T, b []byte, at int) {
	t.Helper()
	content, next, e := crc.Open(b, at)
	if want, wantNext, wantError := wantOpen(b, at); !bytes.Equal(content, want) || next != wantNext || e != wantError {
		t.Fatalf("Open of %d bytes %v at %d: %d bytes, %d, error %d, not %d bytes, %d, error %d", len(b), b[:min(len(b), 40)], at, len(content), next, e, len(want), wantNext, wantError)
	}
}

// places returns indices of b, and others around them and far away.
func places(b []byte) []int {
	l := []int{math.MinInt, math.MinInt + 1, -1 << 32, -10, -2, -1, len(b) + 1, len(b) + 2, len(b) + 10, 1 << 32, math.MaxInt - 1, math.MaxInt}
	for at := range len(b) + 1 {
		l = append(l, at)
	}
	return l
}

// P5.3: the examples of the chapter and others, worked out by hand.
func TestOpen(t *testing.T) {
	a := []byte{2, 97, 0x43, 0xbe, 0xb7, 0xe8}
	for _, c := range []struct {
		b       []byte
		at      int
		content string
		next    int
		e       api.Errno
	}{
		{a, 0, "a", 6, api.OK}, {join([]byte{9, 9}, a, a), 2, "a", 8, api.OK}, {[]byte{0, 0, 0, 0, 0}, 0, "", 5, api.OK}, {make([]byte, 9), 4, "", 9, api.OK}, {make([]byte, 9), 0, "", 5, api.OK},
		{a, -1, "", 0, api.ErrRange}, {a, 7, "", 0, api.ErrRange}, {nil, 1, "", 0, api.ErrRange}, {nil, -1, "", 0, api.ErrRange}, {a, math.MinInt, "", 0, api.ErrRange}, {a, math.MaxInt, "", 0, api.ErrRange},
		{a, 6, "", 0, api.ErrShort}, {nil, 0, "", 0, api.ErrShort}, {[]byte{128}, 0, "", 0, api.ErrShort}, {bytes.Repeat([]byte{255}, 9), 0, "", 0, api.ErrShort},
		{bytes.Repeat([]byte{255}, 10), 0, "", 0, api.ErrForm}, {[]byte{128, 0, 0, 0, 0, 0, 0}, 0, "", 0, api.ErrForm}, {[]byte{130, 0, 97, 0x43, 0xbe, 0xb7, 0xe8}, 0, "", 0, api.ErrForm},
		{a, 1, "", 0, api.ErrForm}, {[]byte{1}, 0, "", 0, api.ErrForm}, {[]byte{1, 0, 0, 0, 0}, 0, "", 0, api.ErrForm}, {[]byte{3, 97, 0x43, 0xbe, 0xb7, 0xe8}, 0, "", 0, api.ErrForm},
		{a[:5], 0, "", 0, api.ErrShort}, {a[:2], 0, "", 0, api.ErrShort}, {a[:1], 0, "", 0, api.ErrShort}, {[]byte{0, 0, 0, 0}, 0, "", 0, api.ErrShort}, {[]byte{0}, 0, "", 0, api.ErrShort}, {make([]byte, 9), 5, "", 0, api.ErrShort}, {[]byte{4, 97, 0x43, 0xbe, 0xb7, 0xe8}, 0, "", 0, api.ErrShort},
		{[]byte{2, 98, 0x43, 0xbe, 0xb7, 0xe8}, 0, "", 0, api.ErrSum}, {[]byte{2, 97, 0xe8, 0xb7, 0xbe, 0x43}, 0, "", 0, api.ErrSum}, {[]byte{0, 0, 0, 0, 1}, 0, "", 0, api.ErrSum}, {[]byte{0, 1, 0, 0, 0}, 0, "", 0, api.ErrSum}, {[]byte{0, 97, 0x43, 0xbe, 0xb7, 0xe8}, 0, "", 0, api.ErrSum}, {[]byte{2, 0, 0, 0, 0, 0}, 0, "", 0, api.ErrSum},
		// The Sum is that of the content alone, without the length.
		{join([]byte{2, 97}, tail([]byte{2, 97})), 0, "", 0, api.ErrSum},
	} {
		if content, next, e := crc.Open(c.b, c.at); string(content) != c.content || next != c.next || e != c.e {
			t.Errorf("Open(%v, %d): %q, %d, error %d, not %q, %d, error %d", c.b, c.at, content, next, e, c.content, c.next, c.e)
		}
		checkOpen(t, c.b, c.at)
	}
}

// P5.3: lengths at and beyond MaxBody, and such as overflow when the checksum is added, with few and with many bytes behind them.
func TestOpenOfGreatLengths(t *testing.T) {
	many := make([]byte, api.MaxBody+10)
	for _, n := range []int{api.MaxBody - 1, api.MaxBody, api.MaxBody + 1, api.MaxBody + 4, api.MaxBody + 6, 2 * api.MaxBody, 1<<31 - 1, 1 << 31, 1 << 32, 1<<32 + 1, 1 << 62, math.MaxInt - 4, math.MaxInt - 3, math.MaxInt, -1, -2, -4, -5, -api.MaxBody, -1 << 32, math.MinInt, math.MinInt + 4} {
		for _, behind := range [][]byte{nil, {0, 0, 0, 0}, many, many[:api.MaxBody+4], many[:api.MaxBody+3]} {
			checkOpen(t, claim(n, behind), 0)
			checkOpen(t, join([]byte{7, 255}, claim(n, behind)), 2)
			if n == api.MaxBody-1 || n == api.MaxBody {
				continue
			}
			if content, next, e := crc.Open(claim(n, behind), 0); len(content) != 0 || next != 0 || e != api.ErrForm {
				t.Errorf("Open with the length %d and %d bytes: %d bytes, %d, error %d", n, len(behind), len(content), next, e)
			}
		}
	}
	if _, _, e := crc.Open(wire.PutInt(nil, api.MaxBody), 0); e != api.ErrShort {
		t.Errorf("the greatest length alone: error %d", e)
	}
}

// P5.3: frames whose length is wrong by a few, and other sequences, at all indices.
func TestOpenAtAllIndices(t *testing.T) {
	r := rand.New(rand.NewSource(5))
	for length := range 80 {
		content := someBytes(r, length)
		for d := -6; d <= 6; d++ {
			b := join(someBytes(r, r.Intn(4)), claim(length+d, content), someBytes(r, r.Intn(8)))
			for _, at := range places(b) {
				checkOpen(t, b, at)
			}
		}
	}
	for range 2000 {
		b := someBytes(r, r.Intn(20))
		for i := range b {
			b[i] >>= r.Intn(9)
		}
		for _, at := range places(b) {
			checkOpen(t, b, at)
		}
	}
}

// P5.5: Open returns the content of every frame that Seal makes, whatever stands before and behind it.
func TestOpenReturnsWhatWasSealed(t *testing.T) {
	r := rand.New(rand.NewSource(6))
	around := [][]byte{nil, {0}, {2}, {128}, {255, 255}, bytes.Repeat([]byte{255}, 12), frame([]byte("b")), frame(nil), someBytes(r, 100)}
	for _, content := range someContents() {
		sealed, e := crc.Seal(content)
		if e != api.OK {
			t.Fatalf("Seal of %d bytes: error %d", len(content), e)
		}
		for _, before := range around {
			for _, behind := range around {
				b := join(before, sealed, behind)
				back, next, e := crc.Open(b, len(before))
				if !bytes.Equal(back, content) || next != len(before)+len(sealed) || e != api.OK {
					t.Fatalf("%d bytes behind %v and before %v: %d bytes, %d, error %d", len(content), before, behind, len(back), next, e)
				}
			}
		}
	}
}

// wantBroken fails unless Open of b returns ErrSum and nothing else.
func wantBroken(t *testing.T, b []byte, i int) {
	t.Helper()
	if content, next, e := crc.Open(b, 0); len(content) != 0 || next != 0 || e != api.ErrSum {
		t.Fatalf("the byte %d of %d changed to %d: %d bytes, %d, error %d", i, len(b), b[i], len(content), next, e)
	}
}

// P5.7: each change of each byte of the content or of the checksum of short frames, and some changes of long ones.
func TestDamage(t *testing.T) {
	r := rand.New(rand.NewSource(7))
	for _, content := range someContents() {
		b, _ := crc.Seal(content)
		from := len(b) - len(content) - 4
		step := 1 + len(content)/50
		for i := from; i < len(b); i += 1 + r.Intn(step) {
			old := b[i]
			for _, mask := range r.Perm(255)[:min(255, 255*6/len(b)+2)] {
				b[i] = old ^ byte(mask+1)
				wantBroken(t, b, i)
			}
			b[i] = old
		}
	}
	for i := 1; i < 6; i++ {
		b, _ := crc.Seal([]byte("a"))
		for mask := 1; mask < 256; mask++ {
			b[i] ^= byte(mask)
			wantBroken(t, b, i)
			b[i] ^= byte(mask)
		}
	}
}

// P5.3: a content shares no memory with the frame or another content, and Open leaves the frame and what lies behind it as they are.
func TestContentsShareNoMemory(t *testing.T) {
	for _, content := range someContents() {
		b := join(frame(content), make([]byte, 9))
		before := bytes.Clone(b)
		first, _, _ := crc.Open(b[:len(b)-9], 0)
		second, _, _ := crc.Open(b[:len(b)-9], 0)
		first = first[:cap(first)]
		for i := range first {
			first[i]++
		}
		if !bytes.Equal(b, before) || !bytes.Equal(second, content) {
			t.Fatalf("the content of %d bytes shares memory with its frame or another content", len(content))
		}
		clear(b)
		if !bytes.Equal(second, content) {
			t.Fatalf("the content of %d bytes changed with its frame", len(content))
		}
	}
}
