package mac_test

import (
	"bytes"
	"math"
	"math/big"
	"math/rand"
	"strings"
	"sync"
	"testing"

	"bikeshare/api"
	"bikeshare/mac"
)

// published is the key whose bytes are 0 to 15.
var published = api.Key{A: 0x0706050403020100, B: 0x0f0e0d0c0b0a0908}

// number returns an integer without a greatest value.
func number(n uint64) *big.Int { return new(big.Int).SetUint64(n) }

// turned returns x turned left by n bits: the places that are left above 64 bits come back as the lowest ones.
func turned(x *big.Int, n uint) *big.Int {
	moved := new(big.Int).Lsh(x, n)
	high, low := new(big.Int).QuoRem(moved, new(big.Int).Lsh(big.NewInt(1), 64), new(big.Int))
	return low.Add(low, high)
}

// sumOf returns x + y modulo 2^64.
func sumOf(x, y *big.Int) *big.Int {
	sum := new(big.Int).Add(x, y)
	return sum.Mod(sum, new(big.Int).Lsh(big.NewInt(1), 64))
}

// xor returns the exclusive or of the numbers.
func xor(first *big.Int, others ...*big.Int) *big.Int {
	x := new(big.Int).Set(first)
	for _, other := range others {
		x.Xor(x, other)
	}
	return x
}

// wantWords returns the words of b.
func wantWords(b []byte) []*big.Int {
	padded := append(bytes.Clone(b), make([]byte, 7-len(b)%8)...)
	padded = append(padded, byte(len(b)%256))
	var words []*big.Int
	for at := 0; at < len(padded); at += 8 {
		word := new(big.Int)
		for i := 7; i >= 0; i-- {
			word.Add(word.Mul(word, big.NewInt(256)), big.NewInt(int64(padded[at+i])))
		}
		words = append(words, word)
	}
	return words
}

// wantRounds returns the four numbers after n rounds.
func wantRounds(n int, v0, v1, v2, v3 *big.Int) (*big.Int, *big.Int, *big.Int, *big.Int) {
	for range n {
		v0 = sumOf(v0, v1)
		v1 = turned(v1, 13)
		v1 = xor(v1, v0)
		v0 = turned(v0, 32)
		v2 = sumOf(v2, v3)
		v3 = turned(v3, 16)
		v3 = xor(v3, v2)
		v0 = sumOf(v0, v3)
		v3 = turned(v3, 21)
		v3 = xor(v3, v0)
		v2 = sumOf(v2, v1)
		v1 = turned(v1, 17)
		v1 = xor(v1, v2)
		v2 = turned(v2, 32)
	}
	return v0, v1, v2, v3
}

// wantSum is the Sum of b, in the steps in which the chapter describes it.
func wantSum(k api.Key, b []byte) uint64 {
	v0 := xor(number(k.A), number(0x736f6d6570736575))
	v1 := xor(number(k.B), number(0x646f72616e646f6d))
	v2 := xor(number(k.A), number(0x6c7967656e657261))
	v3 := xor(number(k.B), number(0x7465646279746573))
	for _, word := range wantWords(b) {
		v3 = xor(v3, word)
		v0, v1, v2, v3 = wantRounds(2, v0, v1, v2, v3)
		v0 = xor(v0, word)
	}
	v2 = xor(v2, number(0xff))
	v0, v1, v2, v3 = wantRounds(4, v0, v1, v2, v3)
	return xor(v0, v1, v2, v3).Uint64()
}

// checkSum compares Sum with wantSum.
func checkSum(t *testing.T, k api.Key, b []byte) {
	t.Helper()
	if n, want := mac.Sum(k, b), wantSum(k, b); n != want {
		t.Fatalf("Sum(%#x, %d bytes %v): %#x, not %#x", k, len(b), b[:min(len(b), 40)], n, want)
	}
}

// someKeys returns keys at the ends of the numbers, keys of one bit, and others.
func someKeys() []api.Key {
	l := []api.Key{{}, published, {A: published.B, B: published.A}, {A: math.MaxUint64, B: math.MaxUint64}, {A: math.MaxUint64}, {B: math.MaxUint64}, {A: 1 << 63, B: 1<<63 - 1}, {A: 0x736f6d6570736575, B: 0x646f72616e646f6d}}
	for bit := range 64 {
		l = append(l, api.Key{A: 1 << bit}, api.Key{B: 1 << bit})
	}
	r := rand.New(rand.NewSource(1))
	for range 20 {
		l = append(l, api.Key{A: r.Uint64(), B: r.Uint64()})
	}
	return l
}

// someBytes returns arbitrary bytes.
func someBytes(r *rand.Rand, length int) []byte {
	b := make([]byte, length)
	r.Read(b)
	return b
}

// P6.1: the results that are published with the method, of the bytes 0 to n-1 for each n from 0 to 63.
func TestSumAsPublished(t *testing.T) {
	want := []uint64{
		0x726fdb47dd0e0e31, 0x74f839c593dc67fd, 0x0d6c8009d9a94f5a, 0x85676696d7fb7e2d, 0xcf2794e0277187b7, 0x18765564cd99a68d, 0xcbc9466e58fee3ce, 0xab0200f58b01d137,
		0x93f5f5799a932462, 0x9e0082df0ba9e4b0, 0x7a5dbbc594ddb9f3, 0xf4b32f46226bada7, 0x751e8fbc860ee5fb, 0x14ea5627c0843d90, 0xf723ca908e7af2ee, 0xa129ca6149be45e5,
		0x3f2acc7f57c29bdb, 0x699ae9f52cbe4794, 0x4bc1b3f0968dd39c, 0xbb6dc91da77961bd, 0xbed65cf21aa2ee98, 0xd0f2cbb02e3b67c7, 0x93536795e3a33e88, 0xa80c038ccd5ccec8,
		0xb8ad50c6f649af94, 0xbce192de8a85b8ea, 0x17d835b85bbb15f3, 0x2f2e6163076bcfad, 0xde4daaaca71dc9a5, 0xa6a2506687956571, 0xad87a3535c49ef28, 0x32d892fad841c342,
		0x7127512f72f27cce, 0xa7f32346f95978e3, 0x12e0b01abb051238, 0x15e034d40fa197ae, 0x314dffbe0815a3b4, 0x027990f029623981, 0xcadcd4e59ef40c4d, 0x9abfd8766a33735c,
		0x0e3ea96b5304a7d0, 0xad0c42d6fc585992, 0x187306c89bc215a9, 0xd4a60abcf3792b95, 0xf935451de4f21df2, 0xa9538f0419755787, 0xdb9acddff56ca510, 0xd06c98cd5c0975eb,
		0xe612a3cb9ecba951, 0xc766e62cfcadaf96, 0xee64435a9752fe72, 0xa192d576b245165a, 0x0a8787bf8ecb74b2, 0x81b3e73d20b49b6f, 0x7fa8220ba3b2ecea, 0x245731c13ca42499,
		0xb78dbfaf3a8d83bd, 0xea1ad565322a1a0b, 0x60e61c23a3795013, 0x6606d7e446282b93, 0x6ca4ecb15c5f91e1, 0x9f626da15c9625f3, 0xe51b38608ef25f57, 0x958a324ceb064572,
	}
	var b []byte
	for length := range want {
		if n := mac.Sum(published, b); n != want[length] {
			t.Errorf("Sum of %d bytes: %#x, not %#x", length, n, want[length])
		}
		if n := wantSum(published, b); n != want[length] {
			t.Errorf("the tests compute %#x for %d bytes, not %#x", n, length, want[length])
		}
		b = append(b, byte(length))
	}
	if n := mac.Sum(published, nil); n != want[0] {
		t.Errorf("Sum of nil: %#x", n)
	}
}

// P6.1: results under other keys, as OpenSSL computes them.
func TestSumOfOtherKeys(t *testing.T) {
	ends := api.Key{A: math.MaxUint64, B: math.MaxUint64}
	k := api.Key{A: 0xfedcba9876543210, B: 0x0123456789abcdef}
	for _, c := range []struct {
		k    api.Key
		text string
		want uint64
	}{
		{api.Key{}, "", 0x1e924b9d737700d7}, {ends, "", 0x35dd279ee86ce565}, {api.Key{}, strings.Repeat("\x00", 8), 0xe849e8bb6ffe2567}, {ends, strings.Repeat("\xff", 8), 0xf13e77491777f9d0},
		{api.Key{A: 1}, "a", 0xb756d69b679d63d1}, {api.Key{B: 1}, "a", 0xce0f195d509eeb6e}, {api.Key{A: 1 << 63, B: 1}, "The quick brown fox jumps over the lazy dog", 0x4622122292b51531},
		{k, strings.Repeat("\x00", 255), 0x64572ede482806f9}, {k, strings.Repeat("\x00", 256), 0xc264b7a95a9016a5}, {k, strings.Repeat("\xff", 257), 0xdc0dd4cdb90d18b0},
		{k, strings.Repeat("bikeshare", 1000), 0x69dfd23b1d844128}, {api.Key{A: 5, B: 6}, strings.Repeat("\x01", 65536), 0xcb3bc03f4c31a150},
	} {
		if n := mac.Sum(c.k, []byte(c.text)); n != c.want {
			t.Errorf("Sum(%#x, %d bytes): %#x, not %#x", c.k, len(c.text), n, c.want)
		}
	}
}

// P6.1: the words of nine bytes, as the chapter gives them: the second one has the last byte and the length.
func TestWords(t *testing.T) {
	words := wantWords([]byte{1, 2, 3, 4, 5, 6, 7, 8, 9})
	if len(words) != 2 || words[0].Uint64() != 0x0807060504030201 || words[1].Uint64() != 0x0900000000000009 {
		t.Errorf("the tests take the words %x", words)
	}
	checkSum(t, published, []byte{1, 2, 3, 4, 5, 6, 7, 8, 9})
}

// P6.1: all keys of one bit and others, with sequences of some lengths.
func TestSumOfAllKeys(t *testing.T) {
	r := rand.New(rand.NewSource(2))
	for _, k := range someKeys() {
		for _, length := range []int{0, 1, 7, 8, 9, 16, 30} {
			checkSum(t, k, make([]byte, length))
			checkSum(t, k, bytes.Repeat([]byte{255}, length))
			checkSum(t, k, someBytes(r, length))
		}
	}
}

// P6.1: sequences of one byte, and each bit of a sequence of three words.
func TestSumOfEachBit(t *testing.T) {
	for c := range 256 {
		checkSum(t, published, []byte{byte(c)})
	}
	for bit := range 20 * 8 {
		b := make([]byte, 20)
		b[bit/8] = 1 << (bit % 8)
		checkSum(t, published, b)
	}
}

// P6.1: sequences of all lengths up to some hundreds, and long ones; their lengths count modulo 256 only.
func TestSumOfAllLengths(t *testing.T) {
	r := rand.New(rand.NewSource(3))
	for length := range 600 {
		checkSum(t, api.Key{A: r.Uint64(), B: r.Uint64()}, someBytes(r, length))
	}
	for _, length := range []int{1023, 1024, 8191, 65535, 65536, 65537} {
		checkSum(t, published, someBytes(r, length))
	}
}

// P6.3: Sum depends on the bytes alone: not on where they are, on what lies around them, or on the calls before; it leaves them as they are.
func TestSumOfAPartOfMemory(t *testing.T) {
	r := rand.New(rand.NewSource(4))
	for range 2000 {
		memory := someBytes(r, 80)
		before := bytes.Clone(memory)
		from := r.Intn(len(memory) + 1)
		to := from + r.Intn(len(memory)-from+1)
		k := api.Key{A: r.Uint64(), B: r.Uint64()}
		n := mac.Sum(k, memory[from:to])
		if want := mac.Sum(k, bytes.Clone(memory[from:to])); n != want || n != wantSum(k, before[from:to]) {
			t.Fatalf("Sum of %d bytes at %d: %#x, not %#x as elsewhere", to-from, from, n, want)
		}
		if again := mac.Sum(k, memory[from:to:to]); again != n {
			t.Fatalf("the second Sum of %d bytes: %#x, not %#x", to-from, again, n)
		}
		if !bytes.Equal(memory, before) {
			t.Fatalf("Sum changed its argument")
		}
	}
}

// P6.3: calls at the same time do not disturb each other.
func TestSumsAtTheSameTime(t *testing.T) {
	r := rand.New(rand.NewSource(5))
	b := someBytes(r, 1000)
	keys := someKeys()
	sums := make([]uint64, len(keys))
	var all sync.WaitGroup
	for i, k := range keys {
		all.Go(func() { sums[i] = mac.Sum(k, b) + mac.Tag(k, i, -i) })
	}
	all.Wait()
	for i, k := range keys {
		if want := mac.Sum(k, b) + mac.Tag(k, i, -i); sums[i] != want {
			t.Errorf("Sum and Tag under %#x: %#x, not %#x as alone", k, sums[i], want)
		}
	}
}

// P6.1: keys and sequences that differ in one bit have different sums here.
func TestSumsDiffer(t *testing.T) {
	seen := map[uint64]string{}
	note := func(k api.Key, b []byte, what string) {
		n := mac.Sum(k, b)
		if other, ok := seen[n]; ok {
			t.Errorf("%s and %s have the sum %#x", other, what, n)
		}
		seen[n] = what
	}
	b := make([]byte, 24)
	note(api.Key{}, b, "zeros")
	for bit := range 64 {
		note(api.Key{A: 1 << bit}, b, "a bit of A")
		note(api.Key{B: 1 << bit}, b, "a bit of B")
	}
	for bit := range len(b) * 8 {
		changed := bytes.Clone(b)
		changed[bit/8] ^= 1 << (bit % 8)
		note(api.Key{}, changed, "a bit of the bytes")
	}
	for length := range 24 {
		note(api.Key{}, b[:length], "fewer zeros")
	}
}
