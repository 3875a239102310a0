package crc_test

import (
	"bytes"
	"math/rand"
	"slices"
	"testing"

	"bikeshare/api"
	"bikeshare/crc"
)

// frames returns the frames of the contents, one behind the other, and the indices at which they end, from 0 on.
func frames(contents [][]byte) ([]byte, []int) {
	var b []byte
	ends := []int{0}
	for _, content := range contents {
		b = append(b, frame(content)...)
		ends = append(ends, len(b))
	}
	return b, ends
}

// checkRecover fails unless Recover of b returns these contents and this index.
func checkRecover(t *testing.T, b []byte, want [][]byte, end int) {
	t.Helper()
	contents, at := crc.Recover(b)
	if !slices.EqualFunc(contents, want, bytes.Equal) || at != end {
		t.Fatalf("Recover of %d bytes %v: %d contents, %d, not %d contents, %d", len(b), b[:min(len(b), 40)], len(contents), at, len(want), end)
	}
}

// P5.4: the example of the chapter and others, worked out by hand.
func TestRecover(t *testing.T) {
	a, b := []byte("a"), []byte("bc")
	for _, c := range []struct {
		b    []byte
		want [][]byte
		at   int
	}{
		{nil, nil, 0}, {[]byte{2}, nil, 0}, {[]byte{1}, nil, 0}, {make([]byte, 4), nil, 0}, {make([]byte, 5), [][]byte{{}}, 5}, {make([]byte, 9), [][]byte{{}}, 5}, {make([]byte, 10), [][]byte{{}, {}}, 10}, {make([]byte, 11), [][]byte{{}, {}}, 10},
		{frame(a), [][]byte{a}, 6}, {join(frame(a), []byte{2}), [][]byte{a}, 6}, {join(frame(a), frame(b)), [][]byte{a, b}, 13}, {join(frame(b), frame(a)), [][]byte{b, a}, 13}, {join(frame(a), frame(a), frame(a)[:5]), [][]byte{a, a}, 12},
		// Nothing is recovered behind the first error, and the first frame begins at 0.
		{join(frame(a), []byte{1}, frame(b)), [][]byte{a}, 6}, {join(frame(a), []byte{128, 0}, frame(b)), [][]byte{a}, 6}, {join([]byte{1}, frame(a)), nil, 0}, {join([]byte{2, 98, 0x43, 0xbe, 0xb7, 0xe8}, frame(a)), nil, 0}, {join(frame(b), []byte{2, 98, 0x43, 0xbe, 0xb7, 0xe8}, frame(a)), [][]byte{b}, 7}, {bytes.Repeat([]byte{255}, 20), nil, 0},
	} {
		checkRecover(t, c.b, c.want, c.at)
	}
}

// someFrames returns a few contents of different lengths.
func someFrames(r *rand.Rand) [][]byte {
	contents := make([][]byte, r.Intn(6))
	for i := range contents {
		contents[i] = someBytes(r, r.Intn(90)*r.Intn(2))
	}
	return contents
}

// P5.6: frames that are cut off anywhere.
func TestRecoverOfCutFrames(t *testing.T) {
	r := rand.New(rand.NewSource(8))
	for range 300 {
		contents := someFrames(r)
		b, ends := frames(contents)
		complete := 0
		for cut := range len(b) + 1 {
			if complete < len(contents) && ends[complete+1] <= cut {
				complete++
			}
			checkRecover(t, b[:cut:cut], contents[:complete], ends[complete])
			// The bytes behind the cut are no part of what is recovered, though they lie there.
			checkRecover(t, b[:cut], contents[:complete], ends[complete])
		}
	}
}

// P5.6: the longest frames that there are, cut around their ends.
func TestRecoverOfLongFrames(t *testing.T) {
	r := rand.New(rand.NewSource(9))
	contents := [][]byte{someBytes(r, api.MaxBody), nil, someBytes(r, api.MaxBody)}
	b, ends := frames(contents)
	for complete, end := range ends {
		for d := -5; d <= 5; d++ {
			if end+d < 0 || end+d > len(b) {
				continue
			}
			n := complete
			for ends[n] > end+d {
				n--
			}
			for n+1 < len(ends) && ends[n+1] <= end+d {
				n++
			}
			checkRecover(t, b[:end+d], contents[:n], ends[n])
		}
	}
}

// P5.4: Recover returns what Open returns, frame after frame, also of frames that were damaged anywhere.
func TestRecoverOfDamagedFrames(t *testing.T) {
	r := rand.New(rand.NewSource(10))
	for range 3000 {
		b, _ := frames(someFrames(r))
		for range min(len(b), r.Intn(3)) {
			b[r.Intn(len(b))] = byte(r.Intn(256))
		}
		var want [][]byte
		at := 0
		for {
			content, next, e := wantOpen(b, at)
			if e != api.OK {
				break
			}
			want, at = append(want, content), next
		}
		checkRecover(t, b, want, at)
	}
}

// P5.4: many frames take time in proportion to their number.
func TestRecoverOfManyFrames(t *testing.T) {
	contents, at := crc.Recover(make([]byte, 5*1000000+3))
	if len(contents) != 1000000 || at != 5000000 {
		t.Errorf("%d contents, %d", len(contents), at)
	}
}

// P5.4: the contents share no memory with the frames or with each other, and the frames stay as they are.
func TestRecoveredContentsShareNoMemory(t *testing.T) {
	r := rand.New(rand.NewSource(11))
	for range 200 {
		contents := someFrames(r)
		b, _ := frames(contents)
		before := bytes.Clone(b)
		back, _ := crc.Recover(b)
		if !bytes.Equal(b, before) {
			t.Fatal("Recover changed its argument")
		}
		clear(b)
		for i := range back {
			if !bytes.Equal(back[i], contents[i]) {
				t.Fatalf("the content %d changed with the frames or with another content", i)
			}
			whole := back[i][:cap(back[i])]
			for k := range whole {
				whole[k] ^= 255
			}
		}
	}
}
