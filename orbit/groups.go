package orbit

// groups tells which numbers belong together: each leads to a lesser one of
// its group, and the least one to itself.
type groups []int

// separate is as many groups of one number each.
func separate(count int) groups {
	g := make(groups, count)
	for i := range g {
		g[i] = i
	}
	return g
}

// leader is the least number of the group. It shortens the way for those who
// ask later.
func (g groups) leader(i int) int {
	for g[i] != i {
		g[i] = g[g[i]]
		i = g[i]
	}
	return i
}

func (g groups) join(i, j int) {
	a, b := g.leader(i), g.leader(j)
	g[max(a, b)] = min(a, b)
}
