package orbit_test

import (
	"maps"
	"strings"
	"testing"

	"orbit/orbit"
)

var tooLong = strings.Repeat("x", 1501)

const (
	life    = "B3/S23"
	growing = "B12345678/S012345678"
	glider  = "0 0 bo$2bo$3o!"
	upright = "o$o$o!" // becomes three cells in a row, and that again
)

func checkOrbit(t *testing.T, rule, text string, want orbit.Cycle) {
	t.Helper()
	if cycle, e, at := orbit.Orbit(rule, text); cycle != want || e != orbit.OK || at != 0 {
		t.Errorf("Orbit(%q, %q) = %+v, %d, %d, want %+v, 0, 0", rule, text, cycle, e, at, want)
	}
}

func checkNoOrbit(t *testing.T, rule, text string, errno orbit.Errno, at int) {
	t.Helper()
	if cycle, e, a := orbit.Orbit(rule, text); cycle != (orbit.Cycle{}) || e != errno || a != at {
		t.Errorf("Orbit(%.40q, %.80q) = %+v, %d, %d, want none, %d, %d", rule, text, cycle, e, a, errno, at)
	}
}

func TestP6Cycles(t *testing.T) {
	for _, c := range []struct {
		rule, text string
		want       orbit.Cycle
	}{
		{life, glider, orbit.Cycle{From: 0, Period: 4, DX: 1, DY: 1}},
		{life, "0 0 o!", orbit.Cycle{From: 1, Period: 1}},
		{life, "0 0 !", orbit.Cycle{From: 0, Period: 1}},
		{life, "5 -5 9b$$!", orbit.Cycle{From: 0, Period: 1}},
		{life, "0 0 3o!", orbit.Cycle{From: 0, Period: 2}},
		{life, "0 0 2o$o!", orbit.Cycle{From: 1, Period: 1}},
		{life, "0 0 3o$o$bo!", orbit.Cycle{From: 0, Period: 4, DX: -1, DY: -1}},
		{life, "0 0 bo2bo$o$o3bo$4o!", orbit.Cycle{From: 0, Period: 4, DX: -2}},
		{life, "0 0 b3o$o2bo$3bo$3bo$obo!", orbit.Cycle{From: 0, Period: 4, DY: -2}},
		{life, "0 0 5bo$4obo$2o$ob3o$5o!", orbit.Cycle{From: 38, Period: 4, DX: 1, DY: -1}},
		{life, "0 0 10o!", orbit.Cycle{From: 2, Period: 15}},
		{"B36/S23", "0 0 2bo$4o$bobo$3ob2o!", orbit.Cycle{From: 28, Period: 10}},
		{"B368/S245", "0 0 o$ob2o$2bo$o2bo2bo$b4o!", orbit.Cycle{From: 11, Period: 7, DX: 1, DY: -1}},
		{"B2/S", "0 0 3bo$bobo$obo!", orbit.Cycle{From: 9, Period: 1, DX: 1}},
		{"B2/S0", "0 0 3bo$3o$o$bo3bo!", orbit.Cycle{From: 6, Period: 1, DX: -1}},
		{"B2/S0", "0 0 4o$ob2o$2obo$2bo!", orbit.Cycle{From: 3, Period: 19}},
		{"B/S", "0 0 100o!", orbit.Cycle{From: 1, Period: 1}},
		{"B/S012345678", "0 0 100o!", orbit.Cycle{From: 0, Period: 1}},
		{"B/S0", "0 0 o2bo!", orbit.Cycle{From: 0, Period: 1}},
		{"B8/S8", "0 0 3o$obo$3o!", orbit.Cycle{From: 2, Period: 1}},
		{"B/S8", "0 0 3o$3o$3o!", orbit.Cycle{From: 2, Period: 1}},
	} {
		checkOrbit(t, c.rule, c.text, c.want)
	}
}

// Generation 200 is the last one that is looked at.
func TestP6Steps(t *testing.T) {
	checkOrbit(t, life, "0 0 obo$3o$ob2o$2bo!", orbit.Cycle{From: 197, Period: 2})
	checkOrbit(t, life, "1 0 2bo2$3b3o$2b2obo$o3b2o!", orbit.Cycle{From: 199, Period: 1})
	checkOrbit(t, "B36/S125", "0 0 o$b2o$ob2o!", orbit.Cycle{From: 198, Period: 2})
	checkNoOrbit(t, life, "0 0 bo2bo$2obo$o3bo$ob3o!", orbit.ErrSteps, 0)
	checkNoOrbit(t, "B36/S23", "0 0 o$6o$b2o2bo$bobo$o2bo!", orbit.ErrSteps, 0)
	checkNoOrbit(t, "B3/S238", "0 0 b2ob3o$bo2bo$3obo$4b3o$5o!", orbit.ErrSteps, 0)
	checkNoOrbit(t, "B2/S", "0 0 2o!", orbit.ErrSteps, 0)
}

// Things side by side come back only if all of them are moved by the same way.
func TestP6MovedAsOne(t *testing.T) {
	checkNoOrbit(t, life, "0 0 bo20b2o$2bo19b2o$3o!", orbit.ErrSteps, 0)
	checkOrbit(t, life, "0 0 bo20bo$2bo20bo$3o18b3o!", orbit.Cycle{From: 0, Period: 4, DX: 1, DY: 1})
	checkOrbit(t, life, "0 0 3o10b2o$13b2o!", orbit.Cycle{From: 0, Period: 2})
}

func TestP6Cells(t *testing.T) {
	checkNoOrbit(t, growing, "0 0 o!", orbit.ErrCells, 0)
	checkNoOrbit(t, "B1/S", "0 0 100o!", orbit.ErrCells, 0)
	// 25 times three cells that become four, and one that is kept or not
	many := "0 0 " + strings.Repeat("2o3b", 25) + "o$" + strings.Repeat("o4b", 25) + "!"
	checkOrbit(t, life, many, orbit.Cycle{From: 1, Period: 1})
	checkNoOrbit(t, "B3/S023", many, orbit.ErrCells, 0)
	// generation 200 is the first one of more than 100 cells, or generation 201
	checkNoOrbit(t, life, "0 0 5o$b2obo$2o!", orbit.ErrCells, 0)
	checkNoOrbit(t, life, "0 0 o3bo$bobo$ob2o$b2o!", orbit.ErrSteps, 0)
	// it would come back later
	checkNoOrbit(t, "B37/S23", "0 0 ob2o$bo$bobo!", orbit.ErrCells, 0)
}

// How far out a pattern goes is of no matter here.
func TestP6Anywhere(t *testing.T) {
	for _, x := range []string{"0", "-7", far, "-" + far} {
		for _, y := range []string{"12", far, "-" + far} {
			checkOrbit(t, life, x+" "+y+" o!", orbit.Cycle{From: 1, Period: 1})
			checkOrbit(t, "B2/S0", x+" "+y+" !", orbit.Cycle{From: 0, Period: 1})
		}
	}
	checkOrbit(t, life, far+" 0 "+upright, orbit.Cycle{From: 0, Period: 2})
	checkOrbit(t, life, "-"+far+" 0 "+upright, orbit.Cycle{From: 0, Period: 2})
	checkOrbit(t, life, "0 "+far+" 3o!", orbit.Cycle{From: 0, Period: 2})
	checkOrbit(t, life, "0 -"+far+" 3o!", orbit.Cycle{From: 0, Period: 2})
	checkOrbit(t, life, "1999999999999999998 1999999999999999998 bo$2bo$3o!", orbit.Cycle{From: 0, Period: 4, DX: 1, DY: 1})
}

// errorsInOrder is inputs with several things wrong, with the error that is
// named first.
var errorsInOrder = []struct {
	rule, text string
	errno      orbit.Errno
	at         int
}{
	{tooLong, tooLong, orbit.ErrLong, 0},
	{"B3/S32", tooLong, orbit.ErrRule, 5},
	{"B3/S3", tooLong, orbit.ErrLong, 0},
	{"", "0 0 101o!", orbit.ErrRule, 0},
	{"B3", "x", orbit.ErrRule, 2},
	{life, "0 x", orbit.ErrForm, 2},
	{growing, "0 0 101o", orbit.ErrForm, 8},
	{growing, "0 0 03o!", orbit.ErrForm, 4},
	{growing, beyond + " 0 101o!", orbit.ErrFar, 0},
	{growing, far + " 0 2o!", orbit.ErrFar, 0},
	{"B/S", "0 0 101o!", orbit.ErrCells, 0},
	{growing, far + " " + far + " o!", orbit.ErrCells, 0},
	{"B2/S", far + " 0 o$o!", orbit.ErrSteps, 0},
}

func TestP6ErrorsInOrder(t *testing.T) {
	for _, c := range errorsInOrder {
		checkNoOrbit(t, c.rule, c.text, c.errno, c.at)
	}
}

func TestP6AllSmallPatterns(t *testing.T) {
	for _, c := range smallPatterns() {
		if c.errno != orbit.OK {
			checkNoOrbit(t, c.rule, c.text, c.errno, 0)
		} else {
			checkOrbit(t, c.rule, c.text, c.cycle)
		}
	}
}

// isMoved tells whether one generation is another one moved.
func isMoved(list []spots, from, to int) bool {
	return list[from].shape() == list[to].shape()
}

func checkLeast(t *testing.T, rule, text string) {
	t.Helper()
	c, e, _ := orbit.Orbit(rule, text)
	if e != orbit.OK || c.Period < 1 || c.From < 0 {
		t.Fatalf("Orbit(%q, %q) = %+v, %d", rule, text, c, e)
	}
	list := slowGenerations(rule, text, c.From+c.Period)
	if !maps.Equal(list[c.From].moved(c.DX, c.DY), list[c.From+c.Period]) {
		t.Errorf("Orbit(%q, %q) = %+v: it does not come back so", rule, text, c)
	}
	for from := range c.From + 1 {
		for period := 1; period <= c.Period; period++ {
			if from+period < c.From+c.Period && isMoved(list, from, from+period) {
				t.Errorf("Orbit(%q, %q) = %+v: so does %d with the period %d", rule, text, c, from, period)
			}
		}
	}
}

func TestP7Least(t *testing.T) {
	for rule, texts := range map[string][]string{
		life: {
			glider, "0 0 3o!", "0 0 !", "0 0 10o!", "0 0 7o!", "-9 9 2o3$ob3o!",
			"0 0 5bo$4obo$2o$ob3o$5o!", "0 0 bob4o$3bobo$bobobo$b2obo$2ob3o!",
		},
		"B34/S34":   {"0 0 3b2o$3o2bo$2o$2obo$2obo!", "0 0 2bo2bo$2bob2o$bo$bo3bo$4o!"},
		"B368/S245": {"0 0 o2bo2bo$obo$5bo$2obo$ob2o$o4bo!"},
		"B2/S3":     {"0 1 2bo$ob2o!", "0 0 b3o$2o$bobo!"},
		"B37/S23":   {"0 0 5o$2b2o$5o$3bob2o$bo2b3o!"},
		"B36/S125":  {"0 1 o3bo$obo$5o!"},
	} {
		for _, text := range texts {
			checkLeast(t, rule, text)
		}
	}
}
