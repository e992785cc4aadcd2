package orbit_test

import (
	"testing"

	"orbit/orbit"
)

func checkCode(t *testing.T, rule, text, want string) {
	t.Helper()
	if code, e, at := orbit.Code(rule, text); code != want || e != orbit.OK || at != 0 {
		t.Errorf("Code(%q, %q) = %q, %d, %d, want %q, 0, 0", rule, text, code, e, at, want)
	}
}

func checkNoCode(t *testing.T, rule, text string, errno orbit.Errno, at int) {
	t.Helper()
	if code, e, a := orbit.Code(rule, text); code != "" || e != errno || a != at {
		t.Errorf("Code(%.40q, %.80q) = %q, %d, %d, want none, %d, %d", rule, text, code, e, a, errno, at)
	}
}

func TestP10Codes(t *testing.T) {
	checkCode(t, life, "9 9 3o!", "0 0 3o!")
	checkCode(t, life, "-4 0 o$o$o!", "0 0 3o!")
	checkCode(t, life, "5 5 2o$2o!", "0 0 2o$2o!")
	checkCode(t, life, "-1 -1 bo$obo$obo$bo!", "0 0 b2o$o2bo$b2o!")
	checkCode(t, life, "0 0 bo$obo$b2o!", "0 0 2o$obo$bo!")
	checkCode(t, keeping, "9 9 o!", "0 0 o!")
	checkCode(t, keeping, "0 0 o9999b9999bo!", "0 0 o9999$9999$$o!")
	checkCode(t, keeping, "0 0 o11bo!", "0 0 o11bo!")
}

func TestP10NoCells(t *testing.T) {
	checkCode(t, life, "0 0 !", "0 0 !")
	checkCode(t, life, "-5 5 9b3$!", "0 0 !")
	checkCode(t, life, "3 3 o!", "0 0 !")
	checkCode(t, "B/S", far+" "+far+" o!", "0 0 !")
}

// Each of these is the least text turned in another way.
func TestP10Turned(t *testing.T) {
	for _, text := range []string{
		"2bo$3o!", "o$3o!", "3o$2bo!", "3o$o!", "2o$o$o!", "2o$bo$bo!", "o$o$2o!", "bo$bo$2o!",
	} {
		checkCode(t, keeping, "4 -4 "+text, "0 0 2bo$3o!")
	}
}

// The generations from From to From + Period - 1 count, and no earlier ones.
func TestP10Generations(t *testing.T) {
	checkCode(t, life, "0 0 2o$o!", "0 0 2o$2o!")
	checkOrbit(t, life, "0 0 10o!", orbit.Cycle{From: 2, Period: 15})
	checkCode(t, life, "0 0 10o!", slowCode(life, "0 0 10o!", orbit.Cycle{From: 2, Period: 15}))
}

// How far out a pattern is, or goes, is of no matter.
func TestP10Anywhere(t *testing.T) {
	for _, edge := range []string{far, "-" + far} {
		checkCode(t, life, edge+" "+edge+" o!", "0 0 !")
		checkCode(t, keeping, edge+" "+edge+" o!", "0 0 o!")
		checkCode(t, life, edge+" 0 "+upright, "0 0 3o!")
		checkCode(t, life, edge+" 0 o$o$o30$o!", "0 0 3o!")
		checkCode(t, life, "0 "+edge+" 3o30bo!", "0 0 3o!")
	}
	checkCode(t, life, within+" "+within+" 2o$2o!", "0 0 2o$2o!")
	checkCode(t, life, "-"+far+" -"+far+" 2o$2o!", "0 0 2o$2o!")
}

func TestP10ErrorsInOrder(t *testing.T) {
	for _, c := range errorsInOrder {
		checkNoCode(t, c.rule, c.text, c.errno, c.at)
	}
}

func TestP10AllSmallPatterns(t *testing.T) {
	for _, c := range smallPatterns() {
		if c.errno != orbit.OK {
			checkNoCode(t, c.rule, c.text, c.errno, 0)
		} else {
			checkCode(t, c.rule, c.text, slowCode(c.rule, c.text, c.cycle))
		}
	}
}

func TestP10SideBySide(t *testing.T) {
	for _, s := range sideBySide {
		c := cycleOf(t, s.rule, s.text)
		checkCode(t, s.rule, s.text, slowCode(s.rule, s.text, c))
	}
}

// checkSameCode asks for the codes of a pattern's generations, each turned and
// moved.
func checkSameCode(t *testing.T, rule, text string) {
	t.Helper()
	c := cycleOf(t, rule, text)
	code, _, _ := orbit.Code(rule, text)
	for n, now := range slowGenerations(rule, text, c.From+c.Period+1) {
		for i, turned := range now.turnedEightWays() {
			checkCode(t, rule, turned.moved(7*i-20, 9-n).text(), code)
		}
	}
}

func TestP11SameCode(t *testing.T) {
	for _, text := range []string{glider, "0 0 10o!", "0 0 bo2bo$o$o3bo$4o!", "0 0 3o10b2o$13b2o!", "0 0 o!", "0 0 !"} {
		checkSameCode(t, life, text)
	}
	checkSameCode(t, "B2/S34", sparks)
	checkSameCode(t, "B2/S", "0 0 3bo$bobo$obo!")
	checkSameCode(t, "B2/S0", "0 1 3o3$3o!")
	checkSameCode(t, "B34/S34", "0 0 o2bo$3o$bo2$bo$o$o$o$2bo!")
}

// Patterns of which neither is a generation of the other one, moved or turned,
// that the code tells apart.
func TestP11OtherCode(t *testing.T) {
	codes := map[string]string{}
	for _, text := range []string{
		"0 0 !", "0 0 3o!", "0 0 2o$2o!", glider, "0 0 b2o$o2bo$b2o!", "0 0 bo$obo$bo!",
		"0 0 2o$obo$bo!", "0 0 3o10b2o$13b2o!", "0 0 3o11b2o$14b2o!",
	} {
		code, e, _ := orbit.Code(life, text)
		if other, found := codes[code]; found || e != orbit.OK {
			t.Errorf("Code(%q) = %q, %d, as of %q", text, code, e, other)
		}
		codes[code] = text
	}
}
