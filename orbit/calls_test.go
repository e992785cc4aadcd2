package orbit_test

import (
	"reflect"
	"strings"
	"sync"
	"testing"

	"orbit/orbit"
)

// answers asks every call.
func answers(rule, text string, n int) []any {
	ruleErr, ruleAt := orbit.Rule(rule)
	plain, plainErr, plainAt := orbit.Print(text)
	step, stepErr, stepAt := orbit.Step(rule, text, n)
	cycle, cycleErr, cycleAt := orbit.Orbit(rule, text)
	parts, partsErr, partsAt := orbit.Parts(rule, text)
	code, codeErr, codeAt := orbit.Code(rule, text)
	return []any{
		ruleErr, ruleAt, plain, plainErr, plainAt, step, stepErr, stepAt,
		cycle, cycleErr, cycleAt, parts, partsErr, partsAt, code, codeErr, codeAt,
	}
}

func oddTexts() []string {
	texts := []string{
		"", "\x00", "\xff\xfe", "B3/S23", "B/S", "0 0 !", "0 0 bo$2bo$3o!", "-", "0 -",
		"0 0 0", "0 0 3", "0 0 100o!", "2000000000000000000 -2000000000000000000 o!",
		"1999999999999999998 0 bo$2bo$3o!", "0 0 obobo$bo2bo$o$b4o!", "0 0 o9999$9999$o!", "0 0 101o!", "9999999999999999999 9999999999999999999 9999o!",
		"-9999999999999999999 -9999999999999999999 9999$9999b9999o!",
		"0 0 " + strings.Repeat("9999o", 299) + "!", "0 0 " + strings.Repeat("9999$", 298) + "o!",
	}
	for _, piece := range []string{" ", "9", "-", "o", "B", "$", "!", "0 0 o!", "é", "\x00"} {
		for _, times := range []int{2, 20, 24, 25, 1500, 1501, 100000} {
			texts = append(texts, strings.Repeat(piece, times))
		}
	}
	for b := range 256 {
		texts = append(texts, "0 0 "+string([]byte{byte(b)}), "B3/S"+string([]byte{byte(b)}))
	}
	return texts
}

// A call that panicked or did not end would fail the run.
func TestP1EveryCallEnds(t *testing.T) {
	texts := oddTexts()
	for i, text := range texts {
		for _, n := range []int{-1 << 63, -1, 0, 1, 200, 201, 1000000000000000000, 1<<63 - 1} {
			answers(text, texts[len(texts)-1-i], n)
			answers("B3/S23", text, n)
		}
	}
}

// An error leaves no other answer, OK leaves no place.
func TestP1ZeroBesideError(t *testing.T) {
	for _, text := range oddTexts() {
		if e, at := orbit.Rule(text); (e == orbit.OK || e == orbit.ErrLong) && at != 0 {
			t.Errorf("Rule(%.40q) = %d, %d", text, e, at)
		}
		plain, e, at := orbit.Print(text)
		if (e == orbit.OK) == (plain == "") || e != orbit.ErrForm && at != 0 {
			t.Errorf("Print(%.40q) = %q, %d, %d", text, plain, e, at)
		}
	}
}

// The calls that take a rule as well tell a place at a wrong rule or form
// alone.
func TestP1ZeroBesideErrorOfRuns(t *testing.T) {
	for _, text := range oddTexts() {
		for _, rule := range []string{life, growing, "B2/S", "B", text} {
			for _, n := range []int{-1, 3, 200, 201} {
				plain, e, at := orbit.Step(rule, text, n)
				if (e == orbit.OK) == (plain == "") || e != orbit.ErrRule && e != orbit.ErrForm && at != 0 {
					t.Errorf("Step(%.40q, %.40q, %d) = %q, %d, %d", rule, text, n, plain, e, at)
				}
			}
			cycle, e, at := orbit.Orbit(rule, text)
			if (e == orbit.OK) == (cycle.Period == 0) || e != orbit.ErrRule && e != orbit.ErrForm && at != 0 {
				t.Errorf("Orbit(%.40q, %.40q) = %+v, %d, %d", rule, text, cycle, e, at)
			}
			parts, e, at := orbit.Parts(rule, text)
			if e != orbit.OK && parts != nil || e != orbit.ErrRule && e != orbit.ErrForm && at != 0 {
				t.Errorf("Parts(%.40q, %.40q) = %q, %d, %d", rule, text, parts, e, at)
			}
			code, e, at := orbit.Code(rule, text)
			if (e == orbit.OK) == (code == "") || e != orbit.ErrRule && e != orbit.ErrForm && at != 0 {
				t.Errorf("Code(%.40q, %.40q) = %q, %d, %d", rule, text, code, e, at)
			}
		}
	}
}

func ruleFor(i int, text string) string {
	if i%2 == 0 {
		return text
	}
	return severalRules[i%len(severalRules)]
}

// The same questions in another order, and at the same time, have the same
// answers.
func TestP2ArgumentsAlone(t *testing.T) {
	texts := oddTexts()
	first := make([][]any, len(texts))
	for i, text := range texts {
		first[i] = answers(ruleFor(i, text), text, i)
	}
	var group sync.WaitGroup
	for range 4 {
		group.Go(func() {
			for i := len(texts) - 1; i >= 0; i-- {
				if again := answers(ruleFor(i, texts[i]), texts[i], i); !reflect.DeepEqual(again, first[i]) {
					t.Errorf("at %.40q: %v, then %v", texts[i], first[i], again)
				}
			}
		})
	}
	group.Wait()
}

func TestErrorNumbers(t *testing.T) {
	for i, e := range []orbit.Errno{
		orbit.OK, orbit.ErrLong, orbit.ErrForm, orbit.ErrRule,
		orbit.ErrFar, orbit.ErrCells, orbit.ErrRange, orbit.ErrSteps,
	} {
		if int(e) != i {
			t.Errorf("error %d has the number %d", i, e)
		}
	}
}
