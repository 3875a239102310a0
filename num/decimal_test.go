package num_test

import (
	"math"
	"math/rand"
	"regexp"
	"strconv"
	"strings"
	"testing"

	"bikeshare/api"
	"bikeshare/num"
)

// P1.5: numbers and their texts, in both directions.
func TestDecimals(t *testing.T) {
	for _, x := range []struct {
		n, places int
		s         string
	}{
		{-5, 2, "-0.05"}, {1234, 2, "12.34"}, {7, 0, "7"}, {0, 0, "0"}, {0, 1, "0.0"}, {0, 6, "0.000000"}, {-1, 0, "-1"}, {-1, 6, "-0.000001"}, {100, 2, "1.00"}, {-100, 2, "-1.00"},
		{99, 2, "0.99"}, {5, 1, "0.5"}, {10, 1, "1.0"}, {1000000, 6, "1.000000"}, {999999, 6, "0.999999"}, {120, 0, "120"}, {-1050, 3, "-1.050"},
		{most, 0, "1125899906842624"}, {-most, 0, "-1125899906842624"}, {most, 2, "11258999068426.24"}, {most, 6, "1125899906.842624"}, {-most, 6, "-1125899906.842624"},
	} {
		if s, e := num.Format(x.n, x.places); s != x.s || e != api.OK {
			t.Errorf("Format(%d, %d): %q, error %d", x.n, x.places, s, e)
		}
		if n, e := num.Parse(x.s, x.places); n != x.n || e != api.OK {
			t.Errorf("Parse(%q, %d): %d, error %d", x.s, x.places, n, e)
		}
	}
}

// P1.5: Format accepts valid numbers and 0 to 6 places only.
func TestFormatErrors(t *testing.T) {
	for _, x := range [][2]int{{most + 1, 2}, {-most - 1, 2}, {math.MaxInt, 0}, {math.MinInt, 0}, {1, -1}, {1, 7}, {0, math.MinInt}, {0, math.MaxInt}, {most + 1, 7}} {
		if s, e := num.Format(x[0], x[1]); s != "" || e != api.ErrRange {
			t.Errorf("Format(%d, %d): %q, error %d", x[0], x[1], s, e)
		}
	}
}

// P1.5: texts that no number has.
func TestParseErrors(t *testing.T) {
	for _, x := range []struct {
		s      string
		places int
	}{
		{"12.3", 2}, {"12.345", 2}, {"012.34", 2}, {"-0.00", 2}, {"12.34 ", 2}, {" 12.34", 2}, {"", 2}, {"-", 2}, {".", 2}, {"-.", 2}, {"+1.00", 2}, {".50", 2}, {"1.", 2}, {"12,34", 2}, {"1.-50", 2}, {"--1.00", 2}, {"1.00-", 2}, {"1.0.0", 2}, {"1234", 2}, {"00.50", 2}, {"-.50", 2}, {"1e3.00", 2}, {"0x1.00", 2}, {"1_0.00", 2}, {"1.00\n", 2}, {"1.00\x00", 2}, {"\u0661.00", 2}, {"\xff", 2},
		{"", 0}, {"-0", 0}, {"00", 0}, {"01", 0}, {"1.", 0}, {"1.0", 0}, {"-", 0}, {"+1", 0}, {"/", 0}, {":", 0},
		{"1125899906842625", 0}, {"-1125899906842625", 0}, {"11258999068426240", 0}, {"11258999068426.25", 2}, {"1125899906842624.01", 2}, {"-11258999068426.25", 2},
		// 1 << 64 and the number behind it would be 0 and 1 if they were computed modulo 1 << 64.
		{"18446744073709551616", 0}, {"18446744073709551617", 0}, {"-18446744073709551617", 0}, {strings.Repeat("9", 100000), 0}, {strings.Repeat("0", 100000), 0}, {strings.Repeat("-", 100), 0},
	} {
		if n, e := num.Parse(x.s, x.places); n != 0 || e != api.ErrForm {
			t.Errorf("Parse(%q, %d): %d, error %d", x.s, x.places, n, e)
		}
	}
	for _, places := range []int{-1, 7, math.MinInt, math.MaxInt} {
		for _, s := range []string{"1", "1.00", "x"} {
			if n, e := num.Parse(s, places); n != 0 || e != api.ErrRange {
				t.Errorf("Parse(%q, %d): %d, error %d", s, places, n, e)
			}
		}
	}
}

// P1.5: Parse returns what Format was given, for all numbers of places.
func TestParseReturnsWhatWasFormatted(t *testing.T) {
	check := func(n int) {
		for places := range 7 {
			s, e := num.Format(n, places)
			if !textForm(places).MatchString(s) || e != api.OK {
				t.Fatalf("Format(%d, %d): %q, error %d", n, places, s, e)
			}
			if back, e := num.Parse(s, places); back != n || e != api.OK {
				t.Fatalf("Parse(%q, %d): %d, error %d, not %d", s, places, back, e, n)
			}
		}
	}
	for n := range 3001 {
		check(n - 1500)
	}
	for _, n := range edges {
		if valid(n) {
			check(n)
		}
	}
	r := rand.New(rand.NewSource(5))
	for range 3000 {
		check(int(r.Int63n(2*most+1)-most) >> r.Intn(51))
	}
}

// textForm is the form of the texts with these places, if a minus sign before a zero is not considered.
func textForm(places int) *regexp.Regexp {
	behind := ""
	if places > 0 {
		behind = `\.[0-9]{` + strconv.Itoa(places) + `}`
	}
	return regexp.MustCompile(`^-?(0|[1-9][0-9]*)` + behind + `$`)
}

// P1.5: of all short texts, Parse accepts those of the form, and Format returns them again.
func TestFormatReturnsWhatWasParsed(t *testing.T) {
	const letters = "-.0179 "
	for places := range 4 {
		pattern := textForm(places)
		var visit func(s string)
		visit = func(s string) {
			zero := strings.Trim(s, "-.0") == ""
			want := pattern.MatchString(s) && !(zero && strings.HasPrefix(s, "-"))
			n, e := num.Parse(s, places)
			if want != (e == api.OK) || !want && (n != 0 || e != api.ErrForm) {
				t.Fatalf("Parse(%q, %d): %d, error %d", s, places, n, e)
			}
			if back, _ := num.Format(n, places); want && back != s {
				t.Fatalf("Parse(%q, %d) is %d, whose text is %q", s, places, n, back)
			}
			if len(s) < 6 {
				for _, c := range letters {
					visit(s + string(c))
				}
			}
		}
		visit("")
	}
}
