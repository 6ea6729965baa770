package tree

// match pairs the nodes of two trees that have the same paths. A node has one
// partner at most, on either side: so the same paths name one file in both.
type match struct {
	mine, other *Tree
	partner     map[int]int // of mine in the other
	back        map[int]int
	pairs       [][2]int // as they were found
}

func newMatch(mine, other *Tree) *match {
	return &match{mine: mine, other: other, partner: map[int]int{}, back: map[int]int{}}
}

// holds tells whether all nodes that have paths can be paired. It keeps a list
// instead of calling itself, since a tree may be very deep.
func (m *match) holds() bool {
	m.pair(root, root)
	for at := 0; at < len(m.pairs); at++ { // it grows while it is gone through
		a, b := m.mine.nodes[m.pairs[at][0]], m.other.nodes[m.pairs[at][1]]
		if !alike(a, b) || !m.pairNames(a, b) {
			return false
		}
	}
	return true
}

// alike tells whether two nodes are the same but for what stands in them.
func alike(a, b *node) bool {
	return a.mode == b.mode && a.links() == b.links() && a.content.same(&b.content)
}

func (m *match) pairNames(a, b *node) bool {
	if len(a.names) != len(b.names) {
		return false
	}
	for name, number := range inOrder(a.names) {
		other, there := b.names[name]
		if !there || !m.pair(number, other) {
			return false
		}
	}
	return true
}

// pair tells whether two nodes are, or may become, each other's partners.
func (m *match) pair(a, b int) bool {
	partner, taken := m.partner[a]
	back, takenBack := m.back[b]
	if taken || takenBack {
		return partner == b && back == a
	}
	m.partner[a], m.back[b] = b, a
	m.pairs = append(m.pairs, [2]int{a, b})
	return true
}
