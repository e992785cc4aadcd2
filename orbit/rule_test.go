package orbit_test

import (
	"regexp"
	"strings"
	"testing"

	"orbit/orbit"
)

func checkRule(t *testing.T, rule string, errno orbit.Errno, at int) {
	t.Helper()
	if e, a := orbit.Rule(rule); e != errno || a != at {
		t.Errorf("Rule(%q) = %d, %d, want %d, %d", rule, e, a, errno, at)
	}
}

func TestP3Rules(t *testing.T) {
	for _, rule := range []string{
		"B3/S23", "B/S", "B1/S", "B8/S", "B/S0", "B/S8", "B36/S125", "B2/S",
		"B12345678/S012345678",
	} {
		checkRule(t, rule, orbit.OK, 0)
	}
}

func TestP3WrongByte(t *testing.T) {
	for rule, at := range map[string]int{
		"b3/S23": 0, " B3/S23": 0, "3/23": 0, "\x00": 0,
		"B0/S": 1, "B9/S": 1, "BS": 1, "B 3/S23": 1, "B\x00": 1,
		"B33/S": 2, "B32/S": 2, "B3S23": 2, "B3//S": 3, "B3/s23": 3,
		"B3/23": 3, "B3/S9": 4, "B3/S22": 5, "B3/S20": 5, "B3/S00": 5,
		"B3/S23/": 6, "B3/S23\n": 6, "B3/S23\x00": 6, "B3/Sä": 4,
		"B12345678/S0123456788": 20,
	} {
		checkRule(t, rule, orbit.ErrRule, at)
	}
}

func TestP3EndsTooEarly(t *testing.T) {
	whole := "B12345678/S"
	for at := range len(whole) {
		checkRule(t, whole[:at], orbit.ErrRule, at)
	}
	checkRule(t, whole, orbit.OK, 0)
}

func TestP3Long(t *testing.T) {
	rule := "B12345678/S012345678"
	checkRule(t, rule+strings.Repeat(" ", 24-len(rule)), orbit.ErrRule, len(rule))
	checkRule(t, rule+strings.Repeat(" ", 25-len(rule)), orbit.ErrLong, 0)
	checkRule(t, strings.Repeat("x", 24), orbit.ErrRule, 0)
	checkRule(t, strings.Repeat("x", 25), orbit.ErrLong, 0)
	checkRule(t, strings.Repeat("x", 1000000), orbit.ErrLong, 0)
}

// Every short text is held against the form written as a regular expression.
func TestP3AllShortTexts(t *testing.T) {
	whole := regexp.MustCompile(`^B1?2?3?4?5?6?7?8?/S0?1?2?3?4?5?6?7?8?$`)
	begun := regexp.MustCompile(`^(B1?2?3?4?5?6?7?8?(/(S0?1?2?3?4?5?6?7?8?)?)?)?`)
	begun.Longest()
	for text := range textsUpTo("B/S01289", 6) {
		if whole.MatchString(text) {
			checkRule(t, text, orbit.OK, 0)
		} else {
			checkRule(t, text, orbit.ErrRule, len(begun.FindString(text)))
		}
		if t.Failed() {
			return
		}
	}
}
