package num

import (
	"strconv"
	"strings"

	"bikeshare/api"
)

// maxPlaces is the largest number of digits behind the point.
const maxPlaces = 6

// Format returns n / 10^places in decimal, with exactly places digits behind a point (no point if places is 0): ErrRange unless n is from -MaxNum to MaxNum, and places from 0 to 6.
func Format(n, places int) (string, api.Errno) {
	if !valid(n) || places < 0 || places > maxPlaces {
		return "", api.ErrRange
	}
	sign := ""
	if n < 0 {
		sign = "-"
	}
	digits := strconv.Itoa(abs(n))
	// At least one digit stands before the point.
	digits = strings.Repeat("0", max(0, places+1-len(digits))) + digits
	if places == 0 {
		return sign + digits, api.OK
	}
	point := len(digits) - places
	return sign + digits[:point] + "." + digits[point:], api.OK
}

// Parse returns the number whose Format with these places is s: ErrRange unless places is from 0 to 6; ErrForm if there is none.
func Parse(s string, places int) (int, api.Errno) {
	if places < 0 || places > maxPlaces {
		return 0, api.ErrRange
	}
	n, err := strconv.Atoi(strings.Replace(s, ".", "", 1))
	if err != nil {
		return 0, api.ErrForm
	}
	// Atoi accepts other forms, too, and the point may stand anywhere: the text of n decides.
	if text, e := Format(n, places); e != api.OK || text != s {
		return 0, api.ErrForm
	}
	return n, api.OK
}
