package clock_test

import (
	"fmt"
	"regexp"
	"strconv"
	"strings"
	"testing"

	"bikeshare/api"
	"bikeshare/clock"
)

// P2.4: moments and their texts, in both directions.
func TestTexts(t *testing.T) {
	for _, x := range []struct {
		moment int
		s      string
	}{
		{0, "0 00:00:00"}, {1, "0 00:00:01"}, {9, "0 00:00:09"}, {10, "0 00:00:10"}, {59, "0 00:00:59"}, {60, "0 00:01:00"}, {3599, "0 00:59:59"}, {3600, "0 01:00:00"},
		{36000, "0 10:00:00"}, {86399, "0 23:59:59"}, {86400, "1 00:00:00"}, {864000, "10 00:00:00"}, {700000, "8 02:26:40"}, {12*86400 + 8*3600 + 300, "12 08:05:00"},
		{api.MaxDay * api.Day, "49709 00:00:00"}, {api.MaxTime, "49709 23:59:59"},
	} {
		if s, e := clock.Text(x.moment); s != x.s || e != api.OK {
			t.Errorf("Text(%d): %q, error %d, not %q", x.moment, s, e, x.s)
		}
		if n, e := clock.Parse(x.s); n != x.moment || e != api.OK {
			t.Errorf("Parse(%q): %d, error %d, not %d", x.s, n, e, x.moment)
		}
	}
}

// P2.4: Text accepts moments only.
func TestTextErrors(t *testing.T) {
	for _, moment := range wrongMoments {
		if s, e := clock.Text(moment); s != "" || e != api.ErrRange {
			t.Errorf("Text(%d): %q, error %d", moment, s, e)
		}
	}
}

// P2.4: texts that no moment has.
func TestParseErrors(t *testing.T) {
	for _, s := range []string{
		"", " ", ":", "::", " ::", "12", "12 ", "12 08", "12 08:05", "12 08:05:", "08:05:00", " 08:05:00", "12 :05:00", "12 08::00",
		"12 8:05:00", "12 08:5:00", "12 08:05:0", "12 008:05:00", "12 08:005:00", "12 08:05:000", "012 08:05:00", "00 08:05:00",
		"12 24:00:00", "12 99:00:00", "12 08:60:00", "12 08:05:60", "12 23:59:60", "12 08:05:99", "0 00:00:86400",
		"49710 00:00:00", "49710 00:00:01", "99999 00:00:00", "100000 00:00:00",
		"-1 00:00:00", "-0 00:00:00", "+12 08:05:00", "12 -8:05:00", "12 +8:05:00", "12 08:-5:00", "12 08:+5:00", "12 08:05:-1", "12 08:05:+1", "12 08:-0:00", "1 00:00:-1", "1 -1:00:00", "12 09:-55:00",
		" 12 08:05:00", "12 08:05:00 ", "12  08:05:00", "12 08:05:00\n", "12\n08:05:00", "12\t08:05:00", "12\x0008:05:00", "12 08:05:00\x00", "12-08:05:00", "12 08.05.00", "12 08-05-00", "12:08:05:00", "12 08 05 00", "12 08:05 00",
		"12 08:05:00:00", "1 12 08:05:00", "12 08:05:00 12", "12.0 08:05:00", "1e1 08:05:00", "1_2 08:05:00", "0x1 08:05:00", "12 0x:05:00", "12 08:05:0a", "12 08:05:0:", "12 08:05:/0", "twelve",
		"\u0661 08:05:00", "12 \u0660\u0668:05:00", "\xff", "12\u00a008:05:00", "12 08:05:00\xff",
		// Computed modulo 1 << 64, these days or seconds would be 0 or those of the day 12.
		"144115188075855872 00:00:00", "18446744073709551616 00:00:00", "18446744073709551628 08:05:00", "288230376151711756 08:05:00", "0 00:00:18446744073709551616", "-144115188075855872 00:00:00",
		strings.Repeat("9", 100000), strings.Repeat("9", 100000) + " 00:00:00", strings.Repeat("0", 100000) + " 00:00:00", strings.Repeat(" ", 100000), strings.Repeat(":", 100000), strings.Repeat("12 08:05:00", 1000),
	} {
		if n, e := clock.Parse(s); n != 0 || e != api.ErrForm {
			t.Errorf("Parse(%.40q): %d, error %d", s, n, e)
		}
	}
}

// checkText examines the text of a moment, and what Parse makes of it.
func checkText(t *testing.T, moment int) {
	t.Helper()
	want := fmt.Sprintf("%d %02d:%02d:%02d", moment/api.Day, moment/3600%24, moment/60%60, moment%60)
	s, e := clock.Text(moment)
	if s != want || e != api.OK {
		t.Fatalf("Text(%d): %q, error %d, not %q", moment, s, e, want)
	}
	if n, e := clock.Parse(s); n != moment || e != api.OK {
		t.Fatalf("Parse(%q): %d, error %d, not %d", s, n, e, moment)
	}
}

// P2.9: Parse returns each moment from its text: those of the first and of the last day, and those of all days in steps.
func TestParseReturnsTheMoments(t *testing.T) {
	for second := range api.Day {
		checkText(t, second)
		checkText(t, api.MaxTime-second)
	}
	for day := range api.MaxDay + 1 {
		checkText(t, day*api.Day)
		checkText(t, day*api.Day+api.Day-1)
	}
	for moment := 0; moment <= api.MaxTime; moment += 10007 {
		checkText(t, moment)
	}
}

var textForm = regexp.MustCompile(`^(0|[1-9][0-9]*) ([01][0-9]|2[0-3]):[0-5][0-9]:[0-5][0-9]$`)

// isText reports whether s has the form of a text, and a valid day.
func isText(s string) bool {
	if !textForm.MatchString(s) {
		return false
	}
	day, err := strconv.Atoi(s[:strings.IndexByte(s, ' ')])
	return err == nil && day <= api.MaxDay
}

// P2.4, P2.9: of the strings that differ from a text in one or two places, Parse accepts those that are texts, and Text returns them again.
func TestTextReturnsWhatWasParsed(t *testing.T) {
	const letters = "0123456789 :-+/;.x"
	check := func(s string) {
		n, e := clock.Parse(s)
		if want := isText(s); want != (e == api.OK) || !want && (n != 0 || e != api.ErrForm) {
			t.Fatalf("Parse(%q): %d, error %d", s, n, e)
		}
		if e != api.OK {
			return
		}
		if back, e := clock.Text(n); back != s || e != api.OK {
			t.Fatalf("Parse(%q) is %d, whose text is %q, error %d", s, n, back, e)
		}
	}
	var change func(s string, times int)
	change = func(s string, times int) {
		check(s)
		if times == 0 {
			return
		}
		for i := range len(s) + 1 {
			for _, c := range letters {
				change(s[:i]+string(c)+s[i:], times-1)
				if i < len(s) {
					change(s[:i]+string(c)+s[i+1:], times-1)
				}
			}
			if i < len(s) {
				change(s[:i]+s[i+1:], times-1)
			}
		}
	}
	for _, s := range []string{"0 00:00:00", "12 08:05:00", "49709 23:59:59"} {
		change(s, 2)
	}
}
