package clock

import (
	"strconv"
	"strings"

	"bikeshare/api"
)

// Text returns a moment as its day, a blank, and the hour, minute and second with two digits each, with colons between: 12 08:05:00. ErrRange unless t is from 0 to MaxTime.
func Text(t int) (string, api.Errno) {
	if !validMoment(t) {
		return "", api.ErrRange
	}
	secs := t % api.Day
	return strconv.Itoa(t/api.Day) + " " + twoDigits(secs/hourSecs) + ":" + twoDigits(secs%hourSecs/minuteSecs) + ":" + twoDigits(secs%minuteSecs), api.OK
}

// twoDigits returns n in decimal with two digits. n must be from 0 to 99.
func twoDigits(n int) string { return strconv.Itoa(n/10) + strconv.Itoa(n%10) }

// Parse returns the moment whose Text is s: ErrForm if there is none.
func Parse(s string) (int, api.Errno) {
	day, rest, _ := strings.Cut(s, " ")
	hour, rest, _ := strings.Cut(rest, ":")
	minute, second, _ := strings.Cut(rest, ":")
	parts := [...]string{day, hour, minute, second}
	secs := [...]int{api.Day, hourSecs, minuteSecs, 1}
	t := 0
	for i, digits := range parts {
		n, err := strconv.Atoi(digits)
		// No part of a text is greater than the last day; without this the product might overflow.
		if err != nil || n < 0 || n > api.MaxDay {
			return 0, api.ErrForm
		}
		t += n * secs[i]
	}
	// Atoi accepts other forms, too, and the parts may be too large or have the wrong number of digits: the text of t decides.
	if text, e := Text(t); e != api.OK || text != s {
		return 0, api.ErrForm
	}
	return t, api.OK
}
