package lift

// moves are the numbers m(a, b): how much weight is moved from elements a on the left to related elements b on the right.
type moves struct {
	areRelated  func(a, b int) bool
	left, right []int64   // the weight of each a that is not moved yet, and that of each b that is missing yet
	moved       [][]int64 // moved[b][a] is m(a, b)
	// On a path, weight is moved from an a to a b, from which as much goes back to another a, to be moved from there.
	// The depth of an element is the number of moves on the shortest path to it, or -1 if there is none.
	leftDepth, rightDepth []int
}

// canMove reports whether all weight on the left can be moved to related elements so that it is that on the right. It uses up both lists.
func canMove(left, right []int64, areRelated func(a, b int) bool) bool {
	if sum(left) != sum(right) {
		return false
	}
	m := moves{areRelated: areRelated, left: left, right: right, moved: make([][]int64, len(right))}
	for b := range m.moved {
		m.moved[b] = make([]int64, len(left))
	}
	m.moveDirectly()
	m.leftDepth, m.rightDepth = make([]int, len(left)), make([]int, len(right))
	for sum(m.left) > 0 {
		if !m.findPaths() {
			return false
		}
		m.moveAlongPaths()
	}
	return true
}

// moveDirectly moves what can be moved without taking anything back. That is often enough, and asks about few pairs.
func (m *moves) moveDirectly() {
	for a := range m.left {
		for b := 0; b < len(m.right) && m.left[a] > 0; b++ {
			if m.right[b] > 0 && m.areRelated(a, b) {
				w := min(m.left[a], m.right[b])
				m.left[a] -= w
				m.right[b] -= w
				m.moved[b][a] += w
			}
		}
	}
}

// findPaths sets the depths, and reports whether there is a path along which weight can be moved.
func (m *moves) findPaths() bool {
	var found []int
	for a, w := range m.left {
		m.leftDepth[a] = -1
		if w > 0 {
			m.leftDepth[a] = 0
			found = append(found, a)
		}
	}
	for b := range m.rightDepth {
		m.rightDepth[b] = -1
	}
	isPath := false
	for i := 0; i < len(found); i++ {
		a := found[i]
		for b := range m.right {
			if m.rightDepth[b] >= 0 || !m.areRelated(a, b) {
				continue
			}
			depth := m.leftDepth[a] + 1
			m.rightDepth[b] = depth
			isPath = isPath || m.right[b] > 0
			for c, w := range m.moved[b] {
				if w > 0 && m.leftDepth[c] < 0 {
					m.leftDepth[c] = depth
					found = append(found, c)
				}
			}
		}
	}
	return isPath
}

// moveAlongPaths moves weight along the paths on which the depth grows with each move, until nothing can be moved along any of them.
// Then the shortest path is longer than before: so there are few rounds, however large the weights are.
func (m *moves) moveAlongPaths() {
	// Elements before these ones lead nowhere any more.
	nextRight, nextLeft := make([]int, len(m.left)), make([]int, len(m.right))
	var move func(a int, most int64) int64
	takeBack := func(b int, most int64) int64 {
		for ; nextLeft[b] < len(m.left); nextLeft[b]++ {
			c := nextLeft[b]
			if m.leftDepth[c] != m.rightDepth[b] || m.moved[b][c] == 0 {
				continue
			}
			if w := move(c, min(most, m.moved[b][c])); w > 0 {
				m.moved[b][c] -= w
				return w
			}
		}
		return 0
	}
	move = func(a int, most int64) int64 {
		for ; nextRight[a] < len(m.right); nextRight[a]++ {
			b := nextRight[a]
			if m.rightDepth[b] != m.leftDepth[a]+1 || !m.areRelated(a, b) {
				continue
			}
			w := min(most, m.right[b])
			m.right[b] -= w
			if w == 0 {
				w = takeBack(b, most)
			}
			if w > 0 {
				m.moved[b][a] += w
				return w
			}
		}
		return 0
	}
	for a := range m.left {
		for m.left[a] > 0 {
			w := move(a, m.left[a])
			if w == 0 {
				break
			}
			m.left[a] -= w
		}
	}
}
