package clock_test

import (
	"math"
	"testing"

	"bikeshare/api"
	"bikeshare/clock"
)

const end = api.MaxTime + 1

// wrongMoments are numbers that are no moments.
var wrongMoments = []int{-1, -2, -api.Day, math.MinInt, math.MinInt + 1, end, end + 1, end + api.Day, 1 << 32, 1 << 50, math.MaxInt - 1, math.MaxInt}

// P2.1: days, at their first and last moments.
func TestDay(t *testing.T) {
	for _, x := range [][2]int{{0, 0}, {1, 0}, {86399, 0}, {86400, 1}, {86401, 1}, {172799, 1}, {172800, 2}, {700000, 8}, {api.MaxTime - 86400, api.MaxDay - 1}, {api.MaxTime - 86399, api.MaxDay}, {api.MaxTime, api.MaxDay}} {
		if d, e := clock.Day(x[0]); d != x[1] || e != api.OK {
			t.Errorf("Day(%d): %d, error %d, not %d", x[0], d, e, x[1])
		}
	}
}

// P2.1: each day has the moments from day * Day to day * Day + Day - 1.
func TestDayHasItsMoments(t *testing.T) {
	for day := range api.MaxDay + 1 {
		for _, second := range []int{0, 1, 43200, api.Day - 1} {
			if d, e := clock.Day(day*api.Day + second); d != day || e != api.OK {
				t.Fatalf("Day(%d): %d, error %d, not %d", day*api.Day+second, d, e, day)
			}
		}
	}
}

// P2.1: day 0 is a Monday, and the days of the week follow each other to the last day.
func TestWeekday(t *testing.T) {
	for _, x := range [][2]int{{0, 0}, {1, 1}, {5, 5}, {6, 6}, {7, 0}, {8, 1}, {13, 6}, {14, 0}, {api.MaxDay, 2}} {
		if n, e := clock.Weekday(x[0]); n != x[1] || e != api.OK {
			t.Errorf("Weekday(%d): %d, error %d, not %d", x[0], n, e, x[1])
		}
	}
	want := 0
	for day := range api.MaxDay + 1 {
		if n, e := clock.Weekday(day); n != want || e != api.OK {
			t.Fatalf("Weekday(%d): %d, error %d, not %d", day, n, e, want)
		}
		if want++; want == 7 {
			want = 0
		}
	}
}

// P2.1: hours of the week, worked out by hand.
func TestSlot(t *testing.T) {
	for _, x := range [][2]int{{0, 0}, {3599, 0}, {3600, 1}, {86399, 23}, {86400, 24}, {700000, 26}, {604799, 167}, {604800, 0}, {608400, 1}, {end - 3600, 71}, {end - 3601, 70}, {api.MaxTime, 71}} {
		if n, e := clock.Slot(x[0]); n != x[1] || e != api.OK {
			t.Errorf("Slot(%d): %d, error %d, not %d", x[0], n, e, x[1])
		}
	}
}

// P2.1: Slot is 24 * Weekday of the day, plus the hour, in the first and the last second of every hour.
func TestSlotFollowsFromDayAndHour(t *testing.T) {
	for day := range api.MaxDay + 1 {
		weekday, e := clock.Weekday(day)
		if e != api.OK {
			t.Fatalf("Weekday(%d): error %d", day, e)
		}
		for hour := range 24 {
			for _, second := range []int{0, 3599} {
				moment := day*api.Day + hour*3600 + second
				if n, e := clock.Slot(moment); n != 24*weekday+hour || e != api.OK {
					t.Fatalf("Slot(%d): %d, error %d, not %d", moment, n, e, 24*weekday+hour)
				}
			}
		}
	}
}

// P2.1: Day and Slot accept moments only.
func TestDayAndSlotErrors(t *testing.T) {
	for _, moment := range wrongMoments {
		if d, e := clock.Day(moment); d != 0 || e != api.ErrRange {
			t.Errorf("Day(%d): %d, error %d", moment, d, e)
		}
		if n, e := clock.Slot(moment); n != 0 || e != api.ErrRange {
			t.Errorf("Slot(%d): %d, error %d", moment, n, e)
		}
	}
}

// P2.1: Weekday accepts days only.
func TestWeekdayErrors(t *testing.T) {
	for _, day := range []int{-1, -7, -6, math.MinInt, api.MaxDay + 1, api.MaxDay + 2, api.MaxDay + 6, api.MaxTime, math.MaxInt} {
		if n, e := clock.Weekday(day); n != 0 || e != api.ErrRange {
			t.Errorf("Weekday(%d): %d, error %d", day, n, e)
		}
	}
}

// slot is Slot of a moment that must have one.
func slot(t *testing.T, moment int) int {
	t.Helper()
	n, e := clock.Slot(moment)
	if e != api.OK || n < 0 || n >= api.Slots {
		t.Fatalf("Slot(%d): %d, error %d", moment, n, e)
	}
	return n
}

// P2.8: an hour later the slot is the next one, or 0 after the last one.
func TestSlotAnHourLater(t *testing.T) {
	for moment := 0; moment+3600 <= api.MaxTime; moment += 7199 {
		want := slot(t, moment) + 1
		if want == api.Slots {
			want = 0
		}
		if n := slot(t, moment+3600); n != want {
			t.Fatalf("Slot(%d) is %d, not %d", moment+3600, n, want)
		}
	}
	if n, m := slot(t, api.MaxTime-3600), slot(t, api.MaxTime); m != n+1 {
		t.Errorf("the last hour has the slot %d, the one before %d", m, n)
	}
}

// P2.8: the slots repeat after seven days, and not before.
func TestSlotSevenDaysLater(t *testing.T) {
	for moment := 0; moment+7*api.Day <= api.MaxTime; moment += 7201 {
		n := slot(t, moment)
		if m := slot(t, moment+7*api.Day); m != n {
			t.Fatalf("Slot(%d) is %d, and %d seven days later", moment, n, m)
		}
	}
	if n, m := slot(t, api.MaxTime-7*api.Day), slot(t, api.MaxTime); n != m {
		t.Errorf("the last moment has the slot %d, and %d seven days before", m, n)
	}
	seen := map[int]bool{}
	for hour := range api.Slots {
		seen[slot(t, hour*3600)] = true
	}
	if len(seen) != api.Slots {
		t.Errorf("a week has %d slots", len(seen))
	}
}
