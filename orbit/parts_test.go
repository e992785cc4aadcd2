package orbit_test

import (
	"fmt"
	"maps"
	"slices"
	"strings"
	"testing"

	"orbit/orbit"
)

const (
	keeping = "B/S012345678"        // nothing changes
	within  = "1999999999999999999" // one within the limit
	gun     = "24bo$22bobo$12b2o6b2o12b2o$11bo3bo4b2o12b2o$2o8bo5bo3b2o$2o8bo3bob2o4bobo$10bo5bo7bo$11bo3bo$12b2o"
	stopped = "0 0 " + gun + "26$47b2o$47bo$48b3o$50bo!" // what the gun sends out ends below
	sparks  = "1 -1 o4bo3$6o$2o2b2o$2o2b2o!"             // leaves two cells behind, under B2/S34
)

func checkParts(t *testing.T, rule, text string, want ...string) {
	t.Helper()
	parts, e, at := orbit.Parts(rule, text)
	if !slices.Equal(parts, want) || (parts == nil) != (want == nil) || e != orbit.OK || at != 0 {
		t.Errorf("Parts(%q, %q) = %q, %d, %d, want %q, 0, 0", rule, text, parts, e, at, want)
	}
}

// checkOnePart takes a pattern in its plain form that is whole.
func checkOnePart(t *testing.T, rule, text string) {
	t.Helper()
	checkParts(t, rule, text, text)
}

func checkNoParts(t *testing.T, rule, text string, errno orbit.Errno, at int) {
	t.Helper()
	if parts, e, a := orbit.Parts(rule, text); parts != nil || e != errno || a != at {
		t.Errorf("Parts(%.40q, %.80q) = %q, %d, %d, want none, %d, %d", rule, text, parts, e, a, errno, at)
	}
}

func TestP8NeverTouching(t *testing.T) {
	checkParts(t, life, "0 0 3o5b2o$8b2o!", "0 0 3o!", "8 0 2o$2o!")
	checkParts(t, life, "-9 -9 2o$2o7$2o4b3o$2o!", "-9 -9 2o$2o!", "-9 -1 2o$2o!", "-3 -1 3o!")
	checkParts(t, life, "07 -0 b 2o$b2o$!", "8 0 2o$2o!")
	checkParts(t, life, "0 0 2o9998b2o$2o9998b2o9999$9999$2o$2o!", "0 0 2o$2o!", "10000 0 2o$2o!", "0 19999 2o$2o!")
	checkParts(t, life, "0 0 2o2b2o$2o2b2o!", "0 0 2o$2o!", "4 0 2o$2o!")
}

// What is taken apart is generation From, not the pattern itself.
func TestP8GenerationFrom(t *testing.T) {
	checkParts(t, life, "0 0 2o10bo$o!", "0 0 2o$2o!")
	checkParts(t, life, "0 0 3o9b2o$12bo!", "1 -1 o$o$o!", "12 0 2o$2o!")
}

func TestP8NoCells(t *testing.T) {
	checkParts(t, life, "0 0 !")
	checkParts(t, keeping, "-5 5 9b3$!")
	checkParts(t, life, "0 0 o!")
	checkParts(t, "B/S", "0 0 100o!")
	checkParts(t, life, far+" -"+far+" o!")
}

func TestP8OrderedByLeastCell(t *testing.T) {
	checkParts(t, keeping, "0 0 o2bo$6bo!", "0 0 o!", "3 0 o!", "6 1 o!")
	checkParts(t, keeping, "0 0 9bo$5bo$o!", "9 0 o!", "5 1 o!", "0 2 o!")
	checkParts(t, keeping, "-20 -2 30bo$o4b5o$30bo!", "10 -2 o2$o!", "-20 -1 o!", "-15 -1 5o!")
	// as texts, by the least x or by the corner they would have another order
	checkParts(t, keeping, "9 0 o4bo!", "9 0 o!", "14 0 o!")
	checkParts(t, keeping, "9 0 9bo$o$9bo!", "18 0 o2$o!", "9 1 o!")
	checkParts(t, keeping, "0 0 3bo6bo$8bo$6bo$4bo$2bo$o!", "3 0 o!", "0 0 10bo$8bo$6bo$4bo$2bo$o!")
}

func TestP8LinkedAtOnce(t *testing.T) {
	for _, linked := range []string{"obo!", "o2$o!", "o2$2bo!", "2bo2$o!", "o$2bo!", "bo2$o!", "2o!", "bo$o!"} {
		checkOnePart(t, keeping, "-1 -1 "+linked)
	}
	checkParts(t, keeping, "-1 -1 o2bo!", "-1 -1 o!", "2 -1 o!")
	checkParts(t, keeping, "-1 -1 o3$o!", "-1 -1 o!", "-1 2 o!")
	checkParts(t, keeping, "-1 -1 o$3bo!", "-1 -1 o!", "2 0 o!")
	checkParts(t, keeping, "-1 -1 o2$3bo!", "-1 -1 o!", "2 1 o!")
	checkParts(t, keeping, "-1 -1 3bo2$o!", "2 -1 o!", "-1 1 o!")
	checkParts(t, keeping, "-1 -1 o3$2bo!", "-1 -1 o!", "1 2 o!")
	checkParts(t, keeping, "-1 -1 2bo3$o!", "1 -1 o!", "-1 2 o!")
	checkOnePart(t, life, "0 0 2ob2o$2ob2o!")
}

func TestP8StepByStep(t *testing.T) {
	checkOnePart(t, keeping, "0 0 "+strings.Repeat("ob", 99)+"o!")
	checkOnePart(t, keeping, "0 0 obobobo2$o5bo2$o5bo2$obobobo!")
	checkOnePart(t, keeping, "0 0 o9bo2$o9bo2$o9bo2$2bo5bo2$4bobo!")
	checkParts(t, keeping, "0 0 o9bo2$o9bo2$o9bo2$2bo5bo2$4bo2bo!",
		"0 0 o2$o2$o2$2bo2$4bo!", "7 0 3bo2$3bo2$3bo2$bo2$o!")
	// one within another one
	checkParts(t, keeping, "-3 -3 7o$o5bo$o5bo$o2bo2bo$o5bo$o5bo$7o!", "-3 -3 7o$o5bo$o5bo$o5bo$o5bo$o5bo$7o!", "0 0 o!")
	var each []string
	for i := range 100 {
		each = append(each, fmt.Sprint(3*i, " 0 o!"))
	}
	checkParts(t, keeping, "0 0 "+strings.Repeat("o2b", 100)+"!", each...)
}

// Things that touch only in some of their phases are one.
func TestP8LinkedInSomePhases(t *testing.T) {
	// three apart as they stand, two apart when the three cells lie
	checkOnePart(t, life, "1 0 o$o$o$3b2o$3b2o!")
	checkParts(t, life, "1 0 o$o$o$4b2o$4b2o!", "1 0 o$o$o!", "5 3 2o$2o!")
	// no cell stays where it is, and they are far apart at the beginning
	checkOnePart(t, "B2/S0", "0 1 3o3$3o!")
	checkOnePart(t, "B27/S0", "-1 0 o3bo$bobo3$bobo$o3bo!")
}

// One cell comes within two of where another one was a generation ago.
func TestP8NotLinkedInTurn(t *testing.T) {
	checkParts(t, life, "1 0 o$o2b3o$o!", "1 0 o$o$o!", "4 1 3o!")
	checkParts(t, "B27/S0", "-1 -1 bo$o2$3bo$4bo!", "-1 -1 bo$o!", "2 2 o$bo!")
}

func TestP8Moving(t *testing.T) {
	checkOnePart(t, life, glider)
	checkOnePart(t, life, "0 0 bo2bo$o$o3bo$4o!")
	checkParts(t, life, "0 0 bo20bo$2bo20bo$3o18b3o!", "0 0 bo$2bo$3o!", "21 0 bo$2bo$3o!")
	checkParts(t, life, "0 0 9bbo$9b2bo$9b3o$4$bo$2bo$3o!", "9 0 bo$2bo$3o!", "0 7 bo$2bo$3o!")
	checkOnePart(t, "B2/S0", "-4 2 2bo4bo$bob2o$o$o$bob2o$2bo4bo!")
}

// Without the link from a cell to where it comes back, what was sent out a
// period ago would be a part of its own.
func TestP8LinkedWhereItComesBack(t *testing.T) {
	checkOrbit(t, life, stopped, orbit.Cycle{From: 89, Period: 30})
	whole, _, _ := orbit.Step(life, stopped, 89)
	checkParts(t, life, stopped, whole)
	checkParts(t, life, strings.Replace(stopped, "26$", "13$"+"2o$2o12$", 1), whole, "0 21 2o$2o!")
	checkOrbit(t, "B2/S34", sparks, orbit.Cycle{Period: 4, DY: 4})
	checkOnePart(t, "B2/S34", sparks)
}

// Generation From may reach out to the limit.
func TestP8AtTheLimit(t *testing.T) {
	for _, start := range []string{within + " " + within, "-" + far + " " + within, within + " -" + far, "-" + far + " -" + far} {
		checkOnePart(t, life, start+" 2o$2o!")
		checkOnePart(t, keeping, start+" o$bo!")
	}
	checkParts(t, life, within+" 0 o$o$o30$o!", "1999999999999999998 1 3o!")
	checkParts(t, life, "-"+within+" 0 o$o$o30$o!", "-"+far+" 1 3o!")
	checkParts(t, life, "0 "+within+" 3o30bo!", "1 1999999999999999998 o$o$o!")
	checkParts(t, life, "0 -"+within+" 3o30bo!", "1 -"+far+" o$o$o!")
}

// A lone cell dies: so it is generation 1 that is taken apart, with one cell
// beyond the limit.
func TestP8BeyondTheLimit(t *testing.T) {
	for _, edge := range []string{far, "-" + far} {
		checkNoParts(t, life, edge+" 0 o$o$o30$o!", orbit.ErrFar, 0)
		checkNoParts(t, life, "0 "+edge+" 3o30bo!", orbit.ErrFar, 0)
	}
}

// Generations ahead of From and behind it are beyond the limit: no matter.
func TestP8OtherGenerationsBeyond(t *testing.T) {
	for _, edge := range []string{far, "-" + far} {
		checkOnePart(t, life, edge+" 0 "+upright)
		checkOnePart(t, life, "0 "+edge+" 3o!")
	}
	checkOnePart(t, life, "1999999999999999998 1999999999999999998 bo$2bo$3o!")
	checkOnePart(t, life, "-"+far+" -"+far+" 3o$o$bo!")
	checkParts(t, life, "1999999999999999998 0 2bo$2bo$2bo20$o$bo$2bo!", far+" 0 "+upright)
	checkParts(t, life, "-"+far+" 0 o$o$o20$o$bo$2bo!", "-"+far+" 0 "+upright)
	checkParts(t, life, "0 1999999999999999998 20bo$21bo$3o19bo!", "0 "+far+" 3o!")
	checkParts(t, life, "0 -"+far+" 3o17bo$21bo$22bo!", "0 -"+far+" 3o!")
}

func TestP8ErrorsInOrder(t *testing.T) {
	for _, c := range errorsInOrder {
		checkNoParts(t, c.rule, c.text, c.errno, c.at)
	}
}

// partSpots asks Parts what a pattern that comes back is made of.
func partSpots(t *testing.T, rule, text string) []spots {
	t.Helper()
	texts, e, _ := orbit.Parts(rule, text)
	if e != orbit.OK {
		t.Fatalf("Parts(%q, %q) = %q, %d", rule, text, texts, e)
	}
	var parts []spots
	for _, part := range texts {
		parts = append(parts, spotsOf(part))
	}
	return parts
}

// checkAsSlow holds Parts against the slow way.
func checkAsSlow(t *testing.T, rule, text string, c orbit.Cycle) {
	t.Helper()
	parts, e, at := orbit.Parts(rule, text)
	want := slowParts(rule, text, c)
	if !slices.EqualFunc(parts, want, plainTextOf) || (parts == nil) != (want == nil) || e != orbit.OK || at != 0 {
		t.Errorf("Parts(%q, %q) = %q, %d, %d, want %v", rule, text, parts, e, at, want)
	}
}

func TestP8AllSmallPatterns(t *testing.T) {
	for _, c := range smallPatterns() {
		if c.errno != orbit.OK {
			checkNoParts(t, c.rule, c.text, c.errno, 0)
		} else {
			checkAsSlow(t, c.rule, c.text, c.cycle)
		}
	}
}

// All ways to put three cells on 5 by 5 places.
func TestP8AllThreeCells(t *testing.T) {
	for i := range 25 {
		for j := range i {
			for k := range j {
				three := spots{{i % 5, i / 5}: true, {j % 5, j / 5}: true, {k % 5, k / 5}: true}
				checkAsSlow(t, keeping, three.text(), orbit.Cycle{Period: 1})
			}
		}
	}
}

// sideBySide is patterns that come back with several things in them.
var sideBySide = []struct{ rule, text string }{
	{life, stopped}, {life, "0 0 3o5b2o$8b2o!"}, {life, "0 0 bo20bo$2bo20bo$3o18b3o!"},
	{life, "0 0 10o20b3o!"}, {life, "0 0 3o2$4bo$4bo$4bo!"}, {life, "0 0 o$o2b3o$o!"},
	{life, "0 0 5bo$4obo$2o$ob3o$5o!"}, {life, "0 0 obo$3o$ob2o$2bo!"},
	{"B2/S34", sparks}, {"B2/S34", "0 0 8o$b2o2b2o!"}, {"B2/S0", "0 1 3o3$3o!"},
	{"B27/S0", "1 4 o2$o$o$o!"}, {"B27/S0", "0 0 b3o$4o$4o$o!"},
	{"B34/S34", "0 0 5bo$b2o2bo$o$o3b2o$o4b2o$bo3bo2$o3bo$o4b2o!"},
	{"B34/S34", "0 0 3b2o3bo$bobo2bobo$7b2o$2bo3bo2$o5bo$2o2b3o$4b2o!"},
	{"B34/S34", "0 0 o2bo$3o$bo2$bo$o$o$o$2bo!"}, {"B257/S", "0 0 8o!"},
	{"B3/S12", "0 0 2obob4o$3bo2bo2bo$2b2obobo$3o3b2o!"}, {"B368/S245", "0 0 3o2bo$5bo$5bo$obo!"},
	{"B3/S013", "0 0 2b3o2bobo$obo5bo$b2ob4o!"}, {"B3/S0", "1 0 4bobo$6bo$obo$5bo!"},
	{"B37/S23", "0 0 5o$2b2o$5o$3bob2o$bo2b3o!"}, {"B36/S23", "0 0 2bo$4o$bobo$3ob2o!"},
}

// cycleOf takes a pattern that comes back.
func cycleOf(t *testing.T, rule, text string) orbit.Cycle {
	t.Helper()
	c, errno := slowOrbit(rule, text)
	if errno != orbit.OK {
		t.Fatalf("%q under %q does not come back: %d", text, rule, errno)
	}
	return c
}

func TestP8SideBySide(t *testing.T) {
	for _, s := range sideBySide {
		checkAsSlow(t, s.rule, s.text, cycleOf(t, s.rule, s.text))
	}
}

// checkAlone lets the parts of a pattern live alone for three periods.
func checkAlone(t *testing.T, rule, text string, c orbit.Cycle) {
	t.Helper()
	parts := partSpots(t, rule, text)
	for n, now := range slowGenerations(rule, text, c.From+3*c.Period)[c.From:] {
		all, count := spots{}, 0
		for i, part := range parts {
			count += len(part)
			maps.Copy(all, part)
			parts[i] = part.next(rule)
		}
		if !maps.Equal(all, now) || count != len(now) {
			t.Errorf("Parts(%q, %q): %d generations later the parts are %v, the whole is %v", rule, text, n, all, now)
			return
		}
	}
}

func TestP9LivingAlone(t *testing.T) {
	for _, s := range sideBySide {
		checkAlone(t, s.rule, s.text, cycleOf(t, s.rule, s.text))
	}
	for _, c := range smallPatterns() {
		if c.errno == orbit.OK {
			checkAlone(t, c.rule, c.text, c.cycle)
		}
	}
}

// A part taken for itself is whole.
func TestP9PartsOfParts(t *testing.T) {
	for _, s := range sideBySide {
		parts, _, _ := orbit.Parts(s.rule, s.text)
		for _, part := range parts {
			again, e, _ := orbit.Parts(s.rule, part)
			if e != orbit.OK || !slices.Equal(again, []string{part}) {
				t.Errorf("Parts(%q, %q) = %q, %d", s.rule, part, again, e)
			}
		}
	}
}

// Who writes into a list that was answered changes no other answer.
func TestP2PartsAreNew(t *testing.T) {
	const text = "0 0 3o5b2o$8b2o!"
	first, _, _ := orbit.Parts(life, text)
	second, _, _ := orbit.Parts(life, text)
	clear(first)
	_ = append(first, "x")
	if !slices.Equal(second, []string{"0 0 3o!", "8 0 2o$2o!"}) {
		t.Errorf("an earlier answer became %q", second)
	}
	checkParts(t, life, text, "0 0 3o!", "8 0 2o$2o!")
}
