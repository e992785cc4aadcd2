package orbit_test

import "iter"

// textsUpTo gives out all texts of at most so many of the letters.
func textsUpTo(letters string, most int) iter.Seq[string] {
	return func(yield func(string) bool) {
		giveTexts("", letters, most, yield)
	}
}

func giveTexts(begun, letters string, most int, yield func(string) bool) bool {
	if !yield(begun) {
		return false
	}
	if most == 0 {
		return true
	}
	for i := range len(letters) {
		if !giveTexts(begun+letters[i:i+1], letters, most-1, yield) {
			return false
		}
	}
	return true
}
