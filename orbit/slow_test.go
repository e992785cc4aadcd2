package orbit_test

import (
	"fmt"
	"maps"
	"slices"
	"strconv"
	"strings"
	"sync"
	"testing"

	"orbit/orbit"
)

// What becomes of a pattern, written anew and slowly, straight from the words
// of the document.

type spot struct{ x, y int }

type spots map[spot]bool

func spotsOf(text string) spots {
	living := spots{}
	for c := range livingCells(text) {
		x, _ := strconv.Atoi(c.x)
		y, _ := strconv.Atoi(c.y)
		living[spot{x, y}] = true
	}
	return living
}

func (s spots) neighboursOf(c spot) int {
	n := 0
	for _, near := range []spot{
		{c.x - 1, c.y - 1}, {c.x, c.y - 1}, {c.x + 1, c.y - 1}, {c.x - 1, c.y},
		{c.x + 1, c.y}, {c.x - 1, c.y + 1}, {c.x, c.y + 1}, {c.x + 1, c.y + 1},
	} {
		if s[near] {
			n++
		}
	}
	return n
}

func (s spots) next(rule string) spots {
	born, kept, _ := strings.Cut(rule, "/")
	after, seen := spots{}, spots{}
	for c := range s {
		for y := c.y - 1; y <= c.y+1; y++ {
			for x := c.x - 1; x <= c.x+1; x++ {
				at := spot{x, y}
				if seen[at] {
					continue
				}
				seen[at] = true
				digits := born
				if s[at] {
					digits = kept
				}
				if strings.ContainsRune(digits, '0'+rune(s.neighboursOf(at))) {
					after[at] = true
				}
			}
		}
	}
	return after
}

func (s spots) moved(dx, dy int) spots {
	after := spots{}
	for c := range s {
		after[spot{c.x + dx, c.y + dy}] = true
	}
	return after
}

// corner is the least x and the least y.
func (s spots) corner() spot {
	var least spot
	first := true
	for c := range s {
		if first {
			least, first = c, false
		}
		least = spot{min(least.x, c.x), min(least.y, c.y)}
	}
	return least
}

// shape is the same for patterns that are each other moved, and no others.
func (s spots) shape() string {
	least := s.corner()
	var cells []string
	for c := range s {
		cells = append(cells, fmt.Sprint(c.x-least.x, " ", c.y-least.y))
	}
	slices.Sort(cells)
	return strings.Join(cells, ",")
}

func slowGenerations(rule, text string, last int) []spots {
	list := []spots{spotsOf(text)}
	for len(list) <= last {
		list = append(list, list[len(list)-1].next(rule))
	}
	return list
}

func slowOrbit(rule, text string) (orbit.Cycle, orbit.Errno) {
	numbers, corners := map[string]int{}, []spot{}
	now := spotsOf(text)
	for n := range 201 {
		if n > 0 {
			now = now.next(rule)
		}
		if len(now) > 100 {
			return orbit.Cycle{}, orbit.ErrCells
		}
		shape, at := now.shape(), now.corner()
		if from, found := numbers[shape]; found {
			was := corners[from]
			return orbit.Cycle{From: from, Period: n - from, DX: at.x - was.x, DY: at.y - was.y}, orbit.OK
		}
		numbers[shape] = n
		corners = append(corners, at)
	}
	return orbit.Cycle{}, orbit.ErrSteps
}

// plainTextOf tells whether a text is the plain text of just these cells.
func plainTextOf(text string, cells spots) bool {
	return isPlain(text) && isAtCorner(text, livingCells(text)) && maps.Equal(spotsOf(text), cells)
}

// squareText is a pattern of 3 rows with 3 cells each, one for every number
// below 512.
func squareText(number int) string {
	text := []byte("0 0 ")
	for i := range 9 {
		text = append(text, "bo"[number>>i&1])
		if i%3 == 2 {
			text = append(text, '$')
		}
	}
	return string(append(text, '!'))
}

var severalRules = []string{
	life, "B36/S23", "B2/S", "B3/S12", "B36/S125", "B34/S34", "B2/S3", "B25/S4",
	"B3/S0", "B1/S", "B/S0123", "B45678/S2345", "B8/S012345678", keeping,
}

// told is what the slow way tells of a pattern.
type told struct {
	rule, text string
	cycle      orbit.Cycle
	errno      orbit.Errno
}

// smallPatterns is all patterns of 3 by 3 cells under several rules.
var smallPatterns = sync.OnceValue(func() []told {
	var list []told
	for _, rule := range severalRules {
		for number := range 512 {
			text := squareText(number)
			cycle, errno := slowOrbit(rule, text)
			list = append(list, told{rule, text, cycle, errno})
		}
	}
	return list
})

// The slow way itself is held against what everybody knows of a glider.
func TestSlowWay(t *testing.T) {
	list := slowGenerations(life, glider, 4)
	if !maps.Equal(list[4], list[0].moved(1, 1)) || len(list[1]) != 5 {
		t.Errorf("the glider becomes %v, %v", list[1], list[4])
	}
}
