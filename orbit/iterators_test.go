package orbit

import (
	"slices"
	"testing"
)

func TestNeighbours(t *testing.T) {
	want := []cell{{4, 6}, {5, 6}, {6, 6}, {4, 7}, {6, 7}, {4, 8}, {5, 8}, {6, 8}}
	if got := slices.Collect(cell{5, 7}.neighbours()); !slices.Equal(got, want) {
		t.Errorf("the neighbours are %v", got)
	}
}

func TestCellsInOrder(t *testing.T) {
	p := readPattern("-1 -1 bo$obo3$2bo!")
	want := []cell{{0, -1}, {-1, 0}, {1, 0}, {1, 3}}
	if got := slices.Collect(p.cells()); !slices.Equal(got, want) {
		t.Errorf("the cells are %v", got)
	}
	if got := slices.Collect(p.moved(cell{1, 1})); got[0] != (cell{1, 0}) || got[3] != (cell{2, 4}) {
		t.Errorf("moved they are %v", got)
	}
}

func TestNear(t *testing.T) {
	p := readPattern("-3 -3 7o$7o$7o$7o$7o$7o$7o!")
	for apart := range 3 {
		var want []int
		for i, c := range p {
			if max(c[0], -c[0], c[1], -c[1]) <= apart {
				want = append(want, i)
			}
		}
		if got := slices.Collect(p.near(cell{}, apart)); !slices.Equal(got, want) || len(got) != (2*apart+1)*(2*apart+1) {
			t.Errorf("no further away than %d are %v, want %v", apart, got, want)
		}
	}
	if got := slices.Collect(p.near(cell{6, 0}, 2)); got != nil {
		t.Errorf("near a cell beside the pattern are %v", got)
	}
}

func TestTurned(t *testing.T) {
	want := []pattern{
		{{1, 2}, {5, 3}}, {{-1, 2}, {-5, 3}}, {{5, -3}, {1, -2}}, {{-5, -3}, {-1, -2}},
		{{2, 1}, {3, 5}}, {{-2, 1}, {-3, 5}}, {{3, -5}, {2, -1}}, {{-3, -5}, {-2, -1}},
	}
	got := slices.Collect(pattern{{1, 2}, {5, 3}}.turned())
	if !slices.EqualFunc(got, want, slices.Equal[pattern]) {
		t.Errorf("turned it is %v", got)
	}
}

// An iterator that went on would panic.
func TestIteratorsStopEarly(t *testing.T) {
	p := readPattern("0 0 3o$obo!")
	for range (cell{}).neighbours() {
		break
	}
	for range p.cells() {
		break
	}
	for range p.spans() {
		break
	}
	for range p.near(cell{}, 2) {
		break
	}
	for range p.turned() {
		break
	}
	for range readRule("B3/S23").generations(p) {
		break
	}
}

// Whoever asks an iterator of generations again is told the same again.
func TestGenerationsAgain(t *testing.T) {
	again := readRule("B3/S23").generations(readPattern("0 0 3o!"))
	for range 2 {
		for n, now := range again {
			if n == 1 && plainText(now) != "1 -1 o$o$o!" {
				t.Errorf("generation 1 is %v", now)
			}
			if n == 4 {
				break
			}
		}
	}
}
