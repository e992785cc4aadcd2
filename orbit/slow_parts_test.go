package orbit_test

import (
	"fmt"
	"slices"
	"strings"

	"orbit/orbit"
)

// Parts and codes, written anew and slowly, straight from the words of the
// document.

type moment struct {
	generation int
	at         spot
}

func distance(a, b spot) int {
	return max(a.x-b.x, b.x-a.x, a.y-b.y, b.y-a.y)
}

func isLinked(a, b moment, c orbit.Cycle) bool {
	if a.generation > b.generation {
		a, b = b, a
	}
	if a.generation == c.From && b.generation == c.From+c.Period && b.at == (spot{a.at.x + c.DX, a.at.y + c.DY}) {
		return true
	}
	switch b.generation - a.generation {
	case 0:
		return distance(a.at, b.at) <= 2
	case 1:
		return distance(a.at, b.at) <= 1
	}
	return false
}

// momentsOf is all cells of the generations From to From + Period, in order.
func momentsOf(rule, text string, c orbit.Cycle) []moment {
	list := slowGenerations(rule, text, c.From+c.Period)
	var all []moment
	for n := c.From; n <= c.From+c.Period; n++ {
		for _, at := range list[n].inOrder() {
			all = append(all, moment{n, at})
		}
	}
	return all
}

// inOrder is the cells by y, then by x.
func (s spots) inOrder() []spot {
	var list []spot
	for c := range s {
		list = append(list, c)
	}
	slices.SortFunc(list, func(a, b spot) int {
		if a.y != b.y {
			return a.y - b.y
		}
		return a.x - b.x
	})
	return list
}

// slowParts takes a pattern that comes back so apart.
func slowParts(rule, text string, c orbit.Cycle) []spots {
	all := momentsOf(rule, text, c)
	var parts []spots
	for len(all) > 0 && all[0].generation == c.From {
		part, found := spots{}, all[:1]
		all = all[1:]
		for len(found) > 0 {
			one := found[0]
			if one.generation == c.From {
				part[one.at] = true
			}
			var rest []moment
			found = slices.Clone(found[1:])
			for _, other := range all {
				if isLinked(one, other, c) {
					found = append(found, other)
				} else {
					rest = append(rest, other)
				}
			}
			all = rest
		}
		parts = append(parts, part)
	}
	return parts
}

func (s spots) turnedEightWays() []spots {
	list := make([]spots, 8)
	for i := range list {
		list[i] = spots{}
	}
	for c := range s {
		for i, turned := range []spot{
			{c.x, c.y}, {-c.x, c.y}, {c.x, -c.y}, {-c.x, -c.y},
			{c.y, c.x}, {-c.y, c.x}, {c.y, -c.x}, {-c.y, -c.x},
		} {
			list[i][turned] = true
		}
	}
	return list
}

// text is a text of the cells, with a letter for each place.
func (s spots) text() string {
	least := s.corner()
	out, at := strings.Builder{}, least
	out.WriteString(fmt.Sprint(least.x, " ", least.y, " "))
	for _, c := range s.inOrder() {
		if c.y > at.y {
			out.WriteString(strings.Repeat("$", c.y-at.y))
			at = spot{least.x, c.y}
		}
		out.WriteString(strings.Repeat("b", c.x-at.x) + "o")
		at.x = c.x + 1
	}
	return out.String() + "!"
}

// slowCode is the code of a pattern that comes back so. Print writes the plain
// texts: other tests hold it against the document.
func slowCode(rule, text string, c orbit.Cycle) string {
	list := slowGenerations(rule, text, c.From+c.Period)
	var texts []string
	for _, now := range list[c.From : c.From+c.Period] {
		for _, turned := range now.turnedEightWays() {
			least := turned.corner()
			plain, _, _ := orbit.Print(turned.moved(-least.x, -least.y).text())
			texts = append(texts, plain)
		}
	}
	return slices.Min(texts)
}
