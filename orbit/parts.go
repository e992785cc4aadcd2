package orbit

// How far apart linked cells may lie, in x and in y.
const (
	apartAtOnce = 2 // of one generation: both may be neighbours of a third one
	apartInTurn = 1 // of generations one behind the other
)

// parts takes generation From apart into what lives side by side. It gives up
// if a cell of that generation is too far out.
func (s story) parts() []pattern {
	from := s.generations[s.cycle.From]
	if from.isFar() {
		giveUp(ErrFar, 0)
	}
	linked := linkCells(s.generations[s.cycle.From:])
	var parts []pattern
	for i := range from {
		if linked.leader(i) == i {
			parts = append(parts, ledBy(i, from, linked))
		}
	}
	return parts
}

// ledBy is the part with that leader.
func ledBy(leader int, from pattern, linked groups) pattern {
	var part pattern
	for i, c := range from {
		if linked.leader(i) == leader {
			part = append(part, c)
		}
	}
	return part
}

// layer is a generation whose cells are numbered from start on.
type layer struct {
	pattern
	start int
}

// layersOf numbers the cells of all generations, and tells how many there are.
// Those of the first generation come first: so its least cells lead the parts.
func layersOf(generations []pattern) ([]layer, int) {
	var layers []layer
	count := 0
	for _, p := range generations {
		layers = append(layers, layer{p, count})
		count += len(p)
	}
	return layers, count
}

// linkCells takes generations of which the last one is the first one moved.
// Moving keeps the order: their cells belong together one by one.
func linkCells(generations []pattern) groups {
	layers, count := layersOf(generations)
	linked := separate(count)
	for i, now := range layers {
		linkNear(linked, now, now, apartAtOnce)
		if i > 0 {
			linkNear(linked, layers[i-1], now, apartInTurn)
		}
	}
	last := layers[len(layers)-1]
	for i := range last.pattern {
		linked.join(i, last.start+i)
	}
	return linked
}

func linkNear(linked groups, a, b layer, apart int) {
	for i, c := range a.pattern {
		for j := range b.near(c, apart) {
			linked.join(a.start+i, b.start+j)
		}
	}
}
