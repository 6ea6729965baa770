package tree

import (
	"bollard/api"
	"bollard/dirs"
)

const slash = "/"

// spot is where a name stands, or could.
type spot struct {
	way  []int // the directories that lead to it, the root first
	name string
}

// dir is the directory in which it is.
func (s spot) dir() int {
	return s.way[len(s.way)-1]
}

// at is what stands at a spot, if something does.
func (t *Tree) at(s spot) (int, bool) {
	number, there := t.nodes[s.dir()].names[s.name]
	return number, there
}

// thing is what a path leads to.
func (t *Tree) thing(path string) (int, api.Errno) {
	names, why := dirs.Split(path)
	if why != api.OK {
		return 0, why
	}
	way, why := t.walk(names)
	if why != api.OK {
		return 0, why
	}
	return way[len(way)-1], api.OK
}

// parent is where a path's last name stands, or could: in a directory that
// there is. The path / has no name, and is refused.
func (t *Tree) parent(path string) (spot, api.Errno) {
	names, name, why := dirs.Base(path)
	if why != api.OK {
		return spot{}, why
	}
	way, why := t.walk(names)
	if why != api.OK {
		return spot{}, why
	}
	s := spot{way: way, name: name}
	if !t.nodes[s.dir()].isDir() {
		return spot{}, api.ErrNotDir
	}
	return s, api.OK
}

// named is where a name stands that there is, and what has it.
func (t *Tree) named(path string) (spot, int, api.Errno) {
	s, why := t.parent(path)
	if why != api.OK {
		return spot{}, 0, why
	}
	number, there := t.at(s)
	if !there {
		return spot{}, 0, api.ErrAbsent
	}
	return s, number, api.OK
}

// vacant is where a name could stand that there is not.
func (t *Tree) vacant(path string) (spot, api.Errno) {
	if path == slash {
		return spot{}, api.ErrExists
	}
	s, why := t.parent(path)
	if why != api.OK {
		return spot{}, why
	}
	if _, there := t.at(s); there {
		return spot{}, api.ErrExists
	}
	return s, api.OK
}

// walk is all nodes on the way that names lead from the root on, that first.
func (t *Tree) walk(names []string) ([]int, api.Errno) {
	way := []int{root}
	for i, name := range names {
		dir := t.nodes[way[i]]
		if !dir.isDir() {
			return nil, api.ErrNotDir
		}
		next, there := dir.names[name]
		if !there {
			return nil, api.ErrAbsent
		}
		way = append(way, next)
	}
	return way, api.OK
}
