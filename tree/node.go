package tree

import (
	"cmp"
	"iter"
	"maps"
	"slices"

	"bollard/api"
)

const (
	root     = 1 // the root's number; 0 is no node's
	ownLinks = 2 // those that a directory has without others in it
)

// node is a directory or a file.
type node struct {
	mode    int
	named   int            // how many names it has; the root has none
	names   map[string]int // of a directory: nodes' numbers
	dirs    int            // of a directory: how many directories stand in it
	content content        // of a file
}

func newDir() *node {
	return &node{mode: api.ModeDir, names: map[string]int{}}
}

func newFile() *node {
	return &node{mode: api.ModeFile, content: newContent()}
}

func (n *node) isDir() bool {
	return n.mode == api.ModeDir
}

func (n *node) links() int {
	if n.isDir() {
		return ownLinks + n.dirs
	}
	return n.named
}

func (n *node) mayLinkMore() bool {
	return n.links() < api.MaxLinks
}

func (n *node) copy() *node {
	out := *n
	out.names = maps.Clone(n.names)
	out.content = n.content.copy()
	return &out
}

// add is a new node's number. It has no name yet.
func (t *Tree) add(n *node) int {
	t.last++
	t.nodes[t.last] = n
	return t.last
}

// name gives a node a name where none is.
func (t *Tree) name(s spot, number int) {
	dir, n := t.nodes[s.dir()], t.nodes[number]
	dir.names[s.name] = number
	n.named++
	if n.isDir() {
		dir.dirs++
	}
}

// unname takes a name that is there away.
func (t *Tree) unname(s spot) {
	dir := t.nodes[s.dir()]
	number := dir.names[s.name]
	n := t.nodes[number]
	delete(dir.names, s.name)
	n.named--
	if n.isDir() {
		dir.dirs--
	}
	t.dropGone(number)
}

// dropGone forgets a node that has neither a name nor a descriptor any more.
func (t *Tree) dropGone(number int) {
	if t.nodes[number].named == 0 && !slices.Contains(t.files[:], number) {
		delete(t.nodes, number)
	}
}

// letGo takes its file, if it has one, from a descriptor that there is.
func (t *Tree) letGo(fd int) {
	number := t.files[fd]
	if number == 0 {
		return
	}
	t.files[fd] = 0
	t.dropGone(number)
}

// inOrder goes through a map by its keys, rising: nothing that is told may hang
// on a map's own order.
func inOrder[K cmp.Ordered, V any](m map[K]V) iter.Seq2[K, V] {
	return func(yield func(K, V) bool) {
		for _, key := range slices.Sorted(maps.Keys(m)) {
			if !yield(key, m[key]) {
				return
			}
		}
	}
}
