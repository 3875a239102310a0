package clock

import (
	"cmp"
	"slices"

	"bikeshare/api"
)

// Valid reports whether a window of moments is valid: 0 <= From <= To <= MaxTime + 1.
func Valid(w api.Window) bool {
	return 0 <= w.From && w.From <= w.To && w.To <= api.MaxTime+1
}

// Union returns the moments of all windows as sorted, non-empty windows that neither overlap nor touch: ErrRange if a window is not valid. l may have any length.
func Union(l []api.Window) ([]api.Window, api.Errno) {
	if !allValid(l) {
		return nil, api.ErrRange
	}
	return normal(l), api.OK
}

// Common returns the moments that windows of a and windows of b contain, in the form of Union: the error of Union(a), then that of Union(b).
func Common(a, b []api.Window) ([]api.Window, api.Errno) {
	if !allValid(a) || !allValid(b) {
		return nil, api.ErrRange
	}
	return overlaps(normal(a), normal(b)), api.OK
}

// Minus returns the moments that windows of a contain, and none of b, in the form of Union: errors as those of Common.
func Minus(a, b []api.Window) ([]api.Window, api.Errno) {
	if !allValid(a) || !allValid(b) {
		return nil, api.ErrRange
	}
	return overlaps(normal(a), gaps(normal(b))), api.OK
}

// Length returns the number of the moments that the windows contain, each counted once: the error of Union.
func Length(l []api.Window) (int, api.Errno) {
	if !allValid(l) {
		return 0, api.ErrRange
	}
	n := 0
	for _, w := range normal(l) {
		n += w.To - w.From
	}
	return n, api.OK
}

func allValid(l []api.Window) bool {
	for _, w := range l {
		if !Valid(w) {
			return false
		}
	}
	return true
}

// normal returns the normal form of the moments of l, whose windows must be valid.
func normal(l []api.Window) []api.Window {
	// The argument belongs to the caller: a copy is sorted.
	sorted := make([]api.Window, len(l))
	copy(sorted, l)
	slices.SortFunc(sorted, func(v, w api.Window) int { return cmp.Compare(v.From, w.From) })
	var out []api.Window
	for _, w := range sorted {
		if w.From == w.To {
			continue
		}
		// Windows that only touch are joined, too.
		if last := len(out) - 1; last >= 0 && w.From <= out[last].To {
			out[last].To = max(out[last].To, w.To)
		} else {
			out = append(out, w)
		}
	}
	return out
}

// overlaps returns the normal form of the moments that both lists have. Both must be in normal form: then between two of its windows lies a gap of one of the lists, so that they do not touch.
func overlaps(a, b []api.Window) []api.Window {
	var out []api.Window
	for i, j := 0, 0; i < len(a) && j < len(b); {
		w := api.Window{From: max(a[i].From, b[j].From), To: min(a[i].To, b[j].To)}
		if w.From < w.To {
			out = append(out, w)
		}
		// The window that ends first has no moment in common with what follows in the other list.
		if a[i].To < b[j].To {
			i++
		} else {
			j++
		}
	}
	return out
}

// gaps returns the normal form of the moments that l does not have. l must be in normal form.
func gaps(l []api.Window) []api.Window {
	var out []api.Window
	from := 0
	for _, w := range l {
		if from < w.From {
			out = append(out, api.Window{From: from, To: w.From})
		}
		from = w.To
	}
	if from <= api.MaxTime {
		out = append(out, api.Window{From: from, To: api.MaxTime + 1})
	}
	return out
}
