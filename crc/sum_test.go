package crc_test

import (
	"bytes"
	"hash/crc32"
	"math/rand"
	"strings"
	"testing"

	"bikeshare/crc"
)

// wantSum is the Sum of b, bit by bit, as the chapter describes it.
func wantSum(b []byte) int {
	register := 1<<32 - 1
	for _, c := range b {
		register ^= int(c)
		for range 8 {
			out := register % 2
			register /= 2
			if out == 1 {
				register ^= 0xedb88320
			}
		}
	}
	return 1<<32 - 1 - register
}

// someBytes returns arbitrary bytes.
func someBytes(r *rand.Rand, length int) []byte {
	b := make([]byte, length)
	r.Read(b)
	return b
}

// allBytes returns all bytes in their order.
func allBytes() []byte {
	b := make([]byte, 256)
	for i := range b {
		b[i] = byte(i)
	}
	return b
}

// P5.1: the examples of the chapter, and checksums that are known from elsewhere.
func TestSum(t *testing.T) {
	for _, c := range []struct {
		text string
		want int
	}{
		{"", 0}, {"123456789", 0xcbf43926}, {"a", 0xe8b7be43}, {"abc", 0x352441c2}, {"\x00", 0xd202ef8d}, {"\xff", 0xff000000}, {"\x00\x00\x00\x00", 0x2144df1c}, {"\xff\xff\xff\xff", 0xffffffff},
		{"The quick brown fox jumps over the lazy dog", 0x414fa339}, {strings.Repeat("\x00", 32), 0x190a55ad}, {strings.Repeat("\xff", 32), 0xff6cab0b},
	} {
		if n := crc.Sum([]byte(c.text)); n != c.want {
			t.Errorf("Sum(%q): %#x, not %#x", c.text, n, c.want)
		}
		if n := wantSum([]byte(c.text)); n != c.want {
			t.Errorf("the tests compute %#x for %q, not %#x", n, c.text, c.want)
		}
	}
	if n := crc.Sum(nil); n != 0 {
		t.Errorf("Sum(nil): %#x", n)
	}
	if n := crc.Sum(allBytes()); n != 0x29058c73 {
		t.Errorf("Sum of all bytes: %#x", n)
	}
}

// checkSum compares Sum with wantSum and with the checksum of Go's library.
func checkSum(t *testing.T, b []byte) {
	t.Helper()
	n := crc.Sum(b)
	if want := wantSum(b); n != want {
		t.Fatalf("Sum of %d bytes %v: %#x, not %#x", len(b), b[:min(len(b), 40)], n, want)
	}
	if want := int(crc32.ChecksumIEEE(b)); n != want {
		t.Fatalf("Sum of %d bytes: %#x, not %#x as in the library", len(b), n, want)
	}
}

// P5.1: all strings of one and two bytes, alone and behind and before others.
func TestSumOfShortStrings(t *testing.T) {
	for first := range 256 {
		checkSum(t, []byte{byte(first)})
		checkSum(t, append(bytes.Repeat([]byte{0}, 9), byte(first)))
		checkSum(t, append([]byte{byte(first)}, bytes.Repeat([]byte{0}, 9)...))
		for second := range 256 {
			checkSum(t, []byte{byte(first), byte(second)})
		}
	}
}

// P5.1: strings of all lengths up to some hundreds, and long ones.
func TestSumOfAllLengths(t *testing.T) {
	r := rand.New(rand.NewSource(1))
	for length := range 600 {
		checkSum(t, someBytes(r, length))
		checkSum(t, make([]byte, length))
		checkSum(t, bytes.Repeat([]byte{255}, length))
	}
	for _, length := range []int{1 << 12, 1<<16 - 1, 1 << 16, 1<<16 + 1, 1<<20 + 7} {
		checkSum(t, someBytes(r, length))
	}
}

// P5.1: Sum depends on the bytes alone: not on the calls before, nor on what lies behind them, which it leaves as it is.
func TestSumOfAPartOfMemory(t *testing.T) {
	memory := someBytes(rand.New(rand.NewSource(2)), 300)
	before := bytes.Clone(memory)
	for from := 0; from < len(memory); from += 7 {
		for to := from; to <= len(memory); to += 5 {
			checkSum(t, memory[from:to])
		}
	}
	if !bytes.Equal(memory, before) {
		t.Error("Sum changed its argument")
	}
}

// combined returns the exclusive or of three strings of the same length.
func combined(a, b, c []byte) []byte {
	x := make([]byte, len(a))
	for i := range x {
		x[i] = a[i] ^ b[i] ^ c[i]
	}
	return x
}

// P5.8: the Sum of the exclusive or of three strings is that of their Sums.
func TestSumOfAnExclusiveOr(t *testing.T) {
	r := rand.New(rand.NewSource(3))
	for length := range 400 {
		a, b, c := someBytes(r, length), someBytes(r, length), someBytes(r, length)
		if n, want := crc.Sum(combined(a, b, c)), crc.Sum(a)^crc.Sum(b)^crc.Sum(c); n != want {
			t.Fatalf("three strings of %d bytes: %#x, not %#x", length, n, want)
		}
		if n := crc.Sum(combined(a, b, a)); n != crc.Sum(b) {
			t.Fatalf("two strings that are the same, and another one of %d bytes: %#x", length, n)
		}
	}
}
