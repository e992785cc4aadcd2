package orbit

import (
	"cmp"
	"iter"
	"slices"
)

// cell is a place on the plane: its x, then its y.
type cell [2]int

func (c cell) isFar() bool {
	return max(c[0], c[1]) > maxCoord || min(c[0], c[1]) < -maxCoord
}

// compare puts cells in order: by y, then by x.
func (c cell) compare(d cell) int {
	return cmp.Or(cmp.Compare(c[1], d[1]), cmp.Compare(c[0], d[0]))
}

// neighbours gives out the eight cells around a cell.
func (c cell) neighbours() iter.Seq[cell] {
	return func(yield func(cell) bool) {
		for y := c[1] - 1; y <= c[1]+1; y++ {
			for x := c[0] - 1; x <= c[0]+1; x++ {
				near := cell{x, y}
				if near != c && !yield(near) {
					return
				}
			}
		}
	}
}

// span is living cells side by side in one row, from the left.
type span struct {
	first  cell
	length int
}

// behind is the cell to the right of the span's last one.
func (s span) behind() cell { return cell{s.first[0] + s.length, s.first[1]} }

func (s span) isFar() bool {
	last := cell{s.first[0] + s.length - 1, s.first[1]}
	return s.first.isFar() || last.isFar()
}

// pattern is the living cells, each once, in order.
type pattern []cell

// moved gives out the cells in order, all of them by the same dx and dy.
func (p pattern) moved(by cell) iter.Seq[cell] {
	return func(yield func(cell) bool) {
		for _, c := range p {
			if !yield(cell{c[0] + by[0], c[1] + by[1]}) {
				return
			}
		}
	}
}

// cells gives out the cells in order.
func (p pattern) cells() iter.Seq[cell] { return p.moved(cell{}) }

func (p pattern) has(c cell) bool {
	_, found := slices.BinarySearchFunc(p, c, cell.compare)
	return found
}

// near gives out the numbers of the cells whose x and y differ by no more than
// apart from those of a cell.
func (p pattern) near(c cell, apart int) iter.Seq[int] {
	return func(yield func(int) bool) {
		least := cell{c[0] - apart, c[1] - apart}
		most := cell{c[0] + apart, c[1] + apart}
		i, _ := slices.BinarySearchFunc(p, least, cell.compare)
		for ; i < len(p) && p[i].compare(most) <= 0; i++ {
			if least[0] <= p[i][0] && p[i][0] <= most[0] && !yield(i) {
				return
			}
		}
	}
}

func (p pattern) isFar() bool {
	for c := range p.cells() {
		if c.isFar() {
			return true
		}
	}
	return false
}

// moveTo tells by how much p is to be moved to be q, if that can be. Moving
// keeps the order, so the first cells alone tell where to.
func (p pattern) moveTo(q pattern) (cell, bool) {
	if len(p) != len(q) {
		return cell{}, false
	}
	if len(p) == 0 {
		return cell{}, true
	}
	by := cell{q[0][0] - p[0][0], q[0][1] - p[0][1]}
	i := 0
	for c := range p.moved(by) {
		if c != q[i] {
			return cell{}, false
		}
		i++
	}
	return by, true
}

// spans gives out the longest spans that there are, in order.
func (p pattern) spans() iter.Seq[span] {
	return func(yield func(span) bool) {
		for i := 0; i < len(p); {
			s := span{p[i], 0}
			for i < len(p) && p[i] == s.behind() {
				s.length++
				i++
			}
			if !yield(s) {
				return
			}
		}
	}
}

// corner is the least x and the least y; 0 and 0 if there are no cells.
func (p pattern) corner() cell {
	if len(p) == 0 {
		return cell{}
	}
	least := p[0]
	for c := range p.cells() {
		least[0] = min(least[0], c[0])
	}
	return least
}
