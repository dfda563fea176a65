package mem

import (
	"iter"

	"atrium/api"
)

// The head stands ahead of all cells, on every level. No link leads back to it, so its place is what a level's last node links to.
const (
	head = 0
	none = 0
)

// links are places of nodes, one for each level.
type links [api.MaxHeight]int

// node is a cell, and on each level that it stands on the node behind it.
type node struct {
	cell api.Cell
	next links
}

// is tells whether a node's cell is that one.
func (n *node) is(key string, seq uint64) bool {
	return n.cell.Key == key && n.cell.Seq == seq
}

// before tells whether a node's cell stands ahead of a place in the order.
func (n *node) before(key string, seq uint64) bool {
	if n.cell.Key != key {
		return n.cell.Key < key
	}
	return n.cell.Seq > seq
}

// path is on each level the last node ahead of a place in the order.
func (m *Mem) path(key string, seq uint64) links {
	var path links
	at := head
	for level := api.MaxHeight - 1; level >= 0; level-- {
		next := m.nodes[at].next[level]
		for next != none && m.nodes[next].before(key, seq) {
			at = next
			next = m.nodes[at].next[level]
		}
		path[level] = at
	}
	return path
}

// seek is the first node that does not stand ahead of a place in the order.
func (m *Mem) seek(key string, seq uint64) int {
	return m.nodes[m.path(key, seq)[0]].next[0]
}

// insert puts a cell behind those of its path, on as many levels as it is high.
func (m *Mem) insert(c api.Cell, height int, path links) {
	place := len(m.nodes)
	n := node{cell: c}
	for level := range height {
		ahead := &m.nodes[path[level]]
		n.next[level] = ahead.next[level]
		ahead.next[level] = place
	}
	m.nodes = append(m.nodes, n)
}

// level goes over a level's nodes, from one on.
func (m *Mem) level(level, from int) iter.Seq[int] {
	return func(yield func(int) bool) {
		for n := from; n != none; n = m.nodes[n].next[level] {
			if !yield(n) {
				return
			}
		}
	}
}
