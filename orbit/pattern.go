package orbit

import "iter"

// cell is a place on the plane: its x, then its y.
type cell [2]int

func (c cell) isFar() bool {
	return max(c[0], c[1]) > maxCoord || min(c[0], c[1]) < -maxCoord
}

// span is living cells side by side in one row, from the left.
type span struct {
	first  cell
	length int
}

// behind is the cell to the right of the span's last one.
func (s span) behind() cell { return cell{s.first[0] + s.length, s.first[1]} }

func (s span) isFar() bool {
	last := cell{s.first[0] + s.length - 1, s.first[1]}
	return s.first.isFar() || last.isFar()
}

// pattern is the living cells, each once, in order: by y, then by x.
type pattern []cell

// spans gives out the longest spans that there are, in order.
func (p pattern) spans() iter.Seq[span] {
	return func(yield func(span) bool) {
		for i := 0; i < len(p); {
			s := span{p[i], 0}
			for i < len(p) && p[i] == s.behind() {
				s.length++
				i++
			}
			if !yield(s) {
				return
			}
		}
	}
}

// corner is the least x and the least y; 0 and 0 if there are no cells.
func (p pattern) corner() cell {
	if len(p) == 0 {
		return cell{}
	}
	least := p[0]
	for _, c := range p {
		least[0] = min(least[0], c[0])
	}
	return least
}
