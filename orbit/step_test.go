package orbit_test

import (
	"strings"
	"testing"

	"orbit/orbit"
)

const maxAfter = 1000000000000000000

func checkStep(t *testing.T, rule, text string, n int, want string) {
	t.Helper()
	if plain, e, at := orbit.Step(rule, text, n); plain != want || e != orbit.OK || at != 0 {
		t.Errorf("Step(%q, %.80q, %d) = %q, %d, %d, want %q, 0, 0", rule, text, n, plain, e, at, want)
	}
}

func checkNoStep(t *testing.T, rule, text string, n int, errno orbit.Errno, at int) {
	t.Helper()
	if plain, e, a := orbit.Step(rule, text, n); plain != "" || e != errno || a != at {
		t.Errorf("Step(%.40q, %.80q, %d) = %q, %d, %d, want \"\", %d, %d", rule, text, n, plain, e, a, errno, at)
	}
}

func TestP5Generations(t *testing.T) {
	for _, c := range []struct {
		rule, text string
		n          int
		want       string
	}{
		{life, "-3 07 3b 2o $ $$ o !", 0, "-3 7 3b2o3$o!"},
		{life, "5 5 3b$2b!", 0, "0 0 !"},
		{life, "5 5 3b$2b!", maxAfter, "0 0 !"},
		{life, glider, 1, "0 1 obo$b2o$bo!"},
		{life, glider, 4, "1 1 bo$2bo$3o!"},
		{life, glider, 200, "50 50 bo$2bo$3o!"},
		{life, glider, 201, "50 51 obo$b2o$bo!"},
		{life, glider, 4000000000000, "1000000000000 1000000000000 bo$2bo$3o!"},
		{life, glider, maxAfter, "250000000000000000 250000000000000000 bo$2bo$3o!"},
		{life, "0 0 3o$o$bo!", maxAfter, "-250000000000000000 -250000000000000000 3o$o$bo!"},
		{life, "0 0 bo2bo$o$o3bo$4o!", maxAfter, "-500000000000000000 0 bo2bo$o$o3bo$4o!"},
		{life, "0 0 3o!", 199, "1 -1 o$o$o!"},
		{life, "0 0 3o!", maxAfter - 1, "1 -1 o$o$o!"},
		{life, "0 0 3o!", maxAfter, "0 0 3o!"},
		{life, "0 0 o!", 1, "0 0 !"},
		{life, "9 9 o!", maxAfter, "0 0 !"},
		{life, "0 0 2o$o!", 777, "0 0 2o$2o!"},
		{"B2/S", "0 0 2o!", 1, "0 -1 2o2$2o!"},
		{"B1/S", "7 7 o!", 1, "6 6 3o$obo$3o!"},
		{growing, "0 0 o!", 1, "-1 -1 3o$3o$3o!"},
		{"B8/S", "0 0 3o$obo$3o!", 1, "1 1 o!"},
		{"B/S8", "0 0 3o$3o$3o!", 1, "1 1 o!"},
		{"B/S0", "0 0 ob2obo!", 1, "0 0 o4bo!"},
		{"B/S012345678", "3 3 2o$2o!", 300, "3 3 2o$2o!"},
		{"B/S", "3 3 2o$2o!", 1, "0 0 !"},
		{"B/S", "3 3 2o$2o!", 0, "3 3 2o$2o!"},
	} {
		checkStep(t, c.rule, c.text, c.n, c.want)
	}
}

// Every generation is held against the slow way, near and far behind the
// last one that is gone to step by step.
func TestP5SlowWay(t *testing.T) {
	for rule, texts := range map[string][]string{
		life: {
			glider, "0 0 10o!", "0 0 5bo$4obo$2o$ob3o$5o!", "-100 7 bob4o$3bobo$bobobo$b2obo$2ob3o!",
			"0 0 obo$3o$ob2o$2bo!",
		},
		"B368/S245": {"0 0 o$ob2o$2bo$o2bo2bo$b4o!"},
		"B34/S34":   {"0 0 2bo2bo$2bob2o$bo$bo3bo$4o!", "0 0 3b2o$3o2bo$2o$2obo$2obo!"},
		"B2/S0":     {"0 0 3bo$3o$o$bo3bo!", "0 0 4o$ob2o$2obo$2bo!"},
		"B37/S23":   {"0 0 5o$2b2o$5o$3bob2o$bo2b3o!"},
	} {
		for _, text := range texts {
			for n, cells := range slowGenerations(rule, text, 240) {
				plain, e, at := orbit.Step(rule, text, n)
				if !plainTextOf(plain, cells) || e != orbit.OK || at != 0 {
					t.Fatalf("Step(%q, %q, %d) = %q, %d, %d", rule, text, n, plain, e, at)
				}
			}
		}
	}
}

// As far as 200 generations a pattern need not come back.
func TestP5Steps(t *testing.T) {
	for _, text := range []string{"0 0 bo2bo$2obo$o3bo$ob3o!", "0 0 o3bo$bobo$ob2o$b2o!"} {
		list := slowGenerations(life, text, 200)
		plain, e, at := orbit.Step(life, text, 200)
		if !plainTextOf(plain, list[200]) || e != orbit.OK || at != 0 {
			t.Errorf("Step(%q, 200) = %q, %d, %d", text, plain, e, at)
		}
		for _, n := range []int{201, 202, 1000, maxAfter} {
			checkNoStep(t, life, text, n, orbit.ErrSteps, 0)
		}
	}
}

func TestP5Range(t *testing.T) {
	for _, n := range []int{-1 << 63, -maxAfter, -200, -1, maxAfter + 1, 1<<63 - 1} {
		checkNoStep(t, life, glider, n, orbit.ErrRange, 0)
		checkNoStep(t, life, "0 0 !", n, orbit.ErrRange, 0)
		checkNoStep(t, growing, far+" 0 o!", n, orbit.ErrRange, 0)
	}
}

func TestP5Cells(t *testing.T) {
	// 1, 9, 25, 49, 81 and 121 cells
	checkStep(t, growing, "4 4 o!", 4, "0 0 9o$9o$9o$9o$9o$9o$9o$9o$9o!")
	for _, n := range []int{5, 6, 200, 201, maxAfter} {
		checkNoStep(t, growing, "4 4 o!", n, orbit.ErrCells, 0)
	}
	// generation 10 has 120 cells, generation 12 has 60
	passing := "0 1 4o!"
	list := slowGenerations("B1/S", passing, 12)
	if len(list[9]) > 100 || len(list[10]) <= 100 || len(list[12]) > 100 {
		t.Fatal("not the pattern that is meant")
	}
	if plain, e, _ := orbit.Step("B1/S", passing, 9); !plainTextOf(plain, list[9]) || e != orbit.OK {
		t.Errorf("generation 9 is %q, %d", plain, e)
	}
	checkNoStep(t, "B1/S", passing, 10, orbit.ErrCells, 0)
	checkNoStep(t, "B1/S", passing, 12, orbit.ErrCells, 0)
	// generation 200 is the first one of more than 100 cells
	late := "0 0 5o$b2obo$2o!"
	if plain, e, _ := orbit.Step(life, late, 199); !plainTextOf(plain, slowGenerations(life, late, 199)[199]) || e != orbit.OK {
		t.Errorf("generation 199 is %q, %d", plain, e)
	}
	checkNoStep(t, life, late, 200, orbit.ErrCells, 0)
	checkNoStep(t, life, late, 201, orbit.ErrCells, 0)
}

func TestP5JustSoManyCells(t *testing.T) {
	threes := strings.Repeat("2o3b", 25) + "o$" + strings.Repeat("o4b", 25) + "!"
	row := strings.Repeat("2o3b", 24) + "2o"
	for _, n := range []int{1, 200, 201} {
		checkStep(t, life, "0 0 "+threes, n, "0 0 "+row+"$"+row+"!")
		checkNoStep(t, "B3/S023", "0 0 "+threes, n, orbit.ErrCells, 0)
	}
	checkStep(t, "B/S012345678", "0 0 100o!", 200, "0 0 100o!")
	checkStep(t, "B/S012345678", "0 0 100o!", 201, "0 0 100o!")
}

func TestP5Far(t *testing.T) {
	below := "1999999999999999999"
	for _, c := range []struct{ inside, outside string }{
		{below + " 0 ", far + " 0 "},
		{"-" + below + " 0 ", "-" + far + " 0 "},
	} {
		for _, n := range []int{1, 199, 201, maxAfter - 1} {
			if plain, e, at := orbit.Step(life, c.inside+upright, n); !strings.HasSuffix(plain, " 1 3o!") || e != orbit.OK || at != 0 {
				t.Errorf("Step(%q, %d) = %q, %d, %d", c.inside+upright, n, plain, e, at)
			}
			checkNoStep(t, life, c.outside+upright, n, orbit.ErrFar, 0)
		}
		// too far out on the way alone
		for _, n := range []int{0, 2, 200, 202, maxAfter} {
			checkStep(t, life, c.outside+upright, n, c.outside+upright)
		}
	}
	checkStep(t, life, "0 "+below+" 3o!", 1, "1 1999999999999999998 o$o$o!")
	checkStep(t, life, "0 -"+below+" 3o!", 201, "1 -"+far+" o$o$o!")
	for _, n := range []int{1, 201} {
		checkNoStep(t, life, "0 "+far+" 3o!", n, orbit.ErrFar, 0)
		checkNoStep(t, life, "0 -"+far+" 3o!", n, orbit.ErrFar, 0)
	}
	checkStep(t, life, far+" "+far+" o!", 1, "0 0 !")
	checkStep(t, life, far+" -"+far+" o!", maxAfter, "0 0 !")
}

// Nothing goes faster than one cell a generation, and the fastest things go
// as far as things can.
func TestP5Fast(t *testing.T) {
	right, left := "3bo$bobo$obo!", "3bo$3o$o$bo3bo!"
	list := slowGenerations("B2/S", "0 0 "+right, 200)
	plain, _, _ := orbit.Step("B2/S", "0 0 "+right, 200)
	shape, found := strings.CutPrefix(plain, "201 ")
	if !found || !plainTextOf(plain, list[200]) {
		t.Fatalf("generation 200 is %q", plain)
	}
	checkStep(t, "B2/S", "-200 0 "+right, 1000, "801 "+shape)
	checkStep(t, "B2/S", "0 0 "+right, maxAfter, "1000000000000000001 "+shape)
	checkStep(t, "B2/S", "-"+far+" 0 "+right, maxAfter, "-999999999999999999 "+shape)
	checkStep(t, "B2/S", "999999999999999997 0 "+right, maxAfter, "1999999999999999998 "+shape)
	checkNoStep(t, "B2/S", "999999999999999998 0 "+right, maxAfter, orbit.ErrFar, 0)
	checkNoStep(t, "B2/S", "1999999999999999996 0 "+right, maxAfter, orbit.ErrFar, 0)
	checkStep(t, "B2/S0", "-1000000000000000000 0 "+left, maxAfter, "-"+far+" 0 bo$o$o$bo!")
	checkNoStep(t, "B2/S0", "-1000000000000000001 0 "+left, maxAfter, orbit.ErrFar, 0)
	checkNoStep(t, "B2/S0", "-"+far+" 0 "+left, maxAfter, orbit.ErrFar, 0)
}

func TestP5FarthestGlider(t *testing.T) {
	checkStep(t, life, "1749999999999999998 0 bo$2bo$3o!", maxAfter, "1999999999999999998 250000000000000000 bo$2bo$3o!")
	checkNoStep(t, life, "1749999999999999999 0 bo$2bo$3o!", maxAfter, orbit.ErrFar, 0)
	checkStep(t, life, "0 1749999999999999998 bo$2bo$3o!", maxAfter, "250000000000000000 1999999999999999998 bo$2bo$3o!")
	checkNoStep(t, life, "0 1749999999999999999 bo$2bo$3o!", maxAfter, orbit.ErrFar, 0)
	checkStep(t, life, "-1750000000000000000 0 3o$o$bo!", maxAfter, "-"+far+" -250000000000000000 3o$o$bo!")
	checkNoStep(t, life, "-1750000000000000001 0 3o$o$bo!", maxAfter, orbit.ErrFar, 0)
	checkStep(t, life, "0 -1750000000000000000 3o$o$bo!", maxAfter, "-250000000000000000 -"+far+" 3o$o$bo!")
	checkNoStep(t, life, "0 -1750000000000000001 3o$o$bo!", maxAfter, orbit.ErrFar, 0)
}

func TestP5ErrorsInOrder(t *testing.T) {
	long := strings.Repeat("x", 1501)
	never := far + " 0 " + upright + " x"
	for _, n := range []int{-1, 0, 1, 200, 201, maxAfter, maxAfter + 1} {
		checkNoStep(t, long, long, n, orbit.ErrLong, 0)
		checkNoStep(t, "B3/S32", long, n, orbit.ErrRule, 5)
		checkNoStep(t, "B3", "x", n, orbit.ErrRule, 2)
		checkNoStep(t, life, long, n, orbit.ErrLong, 0)
		checkNoStep(t, life, "0 x", n, orbit.ErrForm, 2)
		checkNoStep(t, life, never, n, orbit.ErrForm, len(never)-1)
		checkNoStep(t, life, beyond+" 0 101o!", n, orbit.ErrFar, 0)
		checkNoStep(t, life, "0 0 101o!", n, orbit.ErrCells, 0)
	}
	for _, n := range []int{5, 200, 201, maxAfter} {
		checkNoStep(t, growing, far+" "+far+" o!", n, orbit.ErrCells, 0)
	}
	checkNoStep(t, growing, far+" "+far+" o!", 4, orbit.ErrFar, 0)
	checkNoStep(t, "B2/S", "-"+far+" 0 2o!", 200, orbit.ErrFar, 0)
	checkNoStep(t, "B2/S", "-"+far+" 0 2o!", 201, orbit.ErrSteps, 0)
}
