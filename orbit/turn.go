package orbit

import (
	"iter"
	"slices"
)

// turning tells how many times the old x and the old y go into the new x, and
// how many times into the new y.
type turning [2][2]int

var turnings = [8]turning{
	{{1, 0}, {0, 1}}, {{-1, 0}, {0, 1}}, {{1, 0}, {0, -1}}, {{-1, 0}, {0, -1}},
	{{0, 1}, {1, 0}}, {{0, -1}, {1, 0}}, {{0, 1}, {-1, 0}}, {{0, -1}, {-1, 0}},
}

func (t turning) of(c cell) cell {
	return cell{t[0][0]*c[0] + t[0][1]*c[1], t[1][0]*c[0] + t[1][1]*c[1]}
}

// turned gives out the pattern turned in all eight ways.
func (p pattern) turned() iter.Seq[pattern] {
	return func(yield func(pattern) bool) {
		for _, t := range turnings {
			var q pattern
			for c := range p.cells() {
				q = append(q, t.of(c))
			}
			slices.SortFunc(q, cell.compare)
			if !yield(q) {
				return
			}
		}
	}
}

// atOrigin is the pattern moved so that its least x and its least y are 0.
func (p pattern) atOrigin() pattern {
	corner := p.corner()
	return slices.Collect(p.moved(cell{-corner[0], -corner[1]}))
}
