package ident_test

import (
	"math/rand"
	"regexp"
	"strings"
	"testing"

	"bikeshare/ident"
)

// longest is an identifier with as many bytes as one can have, of all kinds.
const longest = "a0-9z--b-cdefghijklmnopqrstuvwxy"

var form = regexp.MustCompile(`^[a-z]([a-z0-9-]*[a-z0-9])?\z`)

// isIdentifier reports whether s has the form of an identifier, and at most 32 bytes.
func isIdentifier(s string) bool { return len(s) <= 32 && form.MatchString(s) }

func checkValid(t *testing.T, s string) {
	t.Helper()
	if want := isIdentifier(s); ident.Valid(s) != want {
		t.Fatalf("Valid(%.60q) is %t", s, !want)
	}
}

// P3.1: strings that are identifiers.
func TestIdentifiers(t *testing.T) {
	for _, s := range []string{
		"a", "z", "m", "old-town", "z9", "a0", "a-0", "a--b", "a---9", "a-b-c", "harbour", "zone9zone", "a123456789", "true", "nil",
		longest, strings.Repeat("z", 32), strings.Repeat("z", 31), "a" + strings.Repeat("-", 30) + "a", "a" + strings.Repeat("0", 31),
	} {
		if !ident.Valid(s) {
			t.Errorf("Valid(%q) is false", s)
		}
	}
}

// P3.1: strings that are no identifiers.
func TestOtherStrings(t *testing.T) {
	for _, s := range []string{
		"", "9", "0", "9z", "09", "-", "--", "-a", "-9", "-a-", "a-", "old-", "a0-", "a--", "9-", "A", "Z", "Old", "oLd", "olD", "aZ", "aB9",
		"a b", " a", "a ", "a\n", "\na", "a\t", "a\x00", "\x00", "\x00a", "a\x00b", "a_b", "_a", "a_", "a.b", "a,b", "a/b", "a:b", "a@b", "a`", "`a", "{", "a{", "a}", "a+b",
		// These look like letters, digits and hyphens, or are ones elsewhere.
		"\u00e4", "a\u00e4", "\u0430", "a\u0430", "a\u0661", "\uff41", "a\u2010b", "a\u2013b", "a\u00adb", "a\u0301", "\ufeffa", "a\xe4", "a\xff", "\xff", "a\x80b", "\xe1", "a\xad9",
		longest + "z", strings.Repeat("z", 33), strings.Repeat("z", 64), strings.Repeat("z", 256), strings.Repeat("z", 257), strings.Repeat("z", 288), strings.Repeat("z", 1<<16+1), strings.Repeat("z", 1<<24+1),
		strings.Repeat("-", 32), strings.Repeat("0", 32), strings.Repeat("z", 31) + "-", "-" + strings.Repeat("z", 31), "0" + strings.Repeat("z", 31), strings.Repeat("z", 31) + "\u00e4", strings.Repeat("z", 32) + "\x00", strings.Repeat("z", 32) + "-",
	} {
		if ident.Valid(s) {
			t.Errorf("Valid(%.60q) is true", s)
		}
	}
}

// P3.1: all strings with at most two bytes, and all with a third one behind or before them that are of a few kinds.
func TestValidOfShortStrings(t *testing.T) {
	checkValid(t, "")
	for a := range 256 {
		checkValid(t, string([]byte{byte(a)}))
		for b := range 256 {
			checkValid(t, string([]byte{byte(a), byte(b)}))
			for _, c := range []byte("az09-Z \x80") {
				checkValid(t, string([]byte{byte(a), byte(b), c}))
				checkValid(t, string([]byte{c, byte(a), byte(b)}))
			}
		}
	}
}

// P3.1: all strings of a few bytes that lie at the ends of the letters and digits.
func TestValidOfAllArrangements(t *testing.T) {
	var visit func(s string)
	visit = func(s string) {
		checkValid(t, s)
		if len(s) < 5 {
			for _, c := range "az09-/:`{A" {
				visit(s + string(c))
			}
		}
	}
	visit("")
}

// P3.1: each byte matters at each place, in strings of all lengths around the longest one.
func TestValidOfLongStrings(t *testing.T) {
	for length := range 70 {
		s := []byte(strings.Repeat("k", length))
		checkValid(t, string(s))
		for i := range s {
			for c := range 256 {
				s[i] = byte(c)
				checkValid(t, string(s))
			}
			s[i] = 'k'
		}
	}
}

// P3.1: random strings, mostly of the bytes that identifiers have.
func TestValidOfRandomStrings(t *testing.T) {
	r := rand.New(rand.NewSource(1))
	for range 200000 {
		s := make([]byte, r.Intn(40))
		for i := range s {
			s[i] = "abcxyz0189--"[r.Intn(12)]
			if r.Intn(100) == 0 {
				s[i] = byte(r.Intn(256))
			}
		}
		checkValid(t, string(s))
	}
}
