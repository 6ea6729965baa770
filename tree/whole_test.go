package tree

import (
	"slices"
	"strconv"
	"strings"
	"testing"

	"bollard/api"
)

func TestP14_2Paths(t *testing.T) {
	x := wood(t)
	if want := []string{"/", "/d", "/d/e", "/d/e/g", "/d/e/i", "/d/h", "/empty", "/f"}; !slices.Equal(x.Paths(), want) {
		t.Fatal(x.Paths())
	}
}

// TestP14_2PathsRising: byte by byte, and a slash is above some bytes of names.
func TestP14_2PathsRising(t *testing.T) {
	x := New()
	does(t, x, mkdir("/a"), mkdir("/a/b"), mkdir("/a!"), mkdir("/a."), mkdir("/a0"), mkdir("/a-"), mkdir("/a-/x"), create("/a/b!"), mkdir("/a/b/c"), mkdir("/A"), mkdir("/!"), mkdir("/~"))
	want := []string{"/", "/!", "/A", "/a", "/a!", "/a-", "/a-/x", "/a.", "/a/b", "/a/b!", "/a/b/c", "/a0", "/~"}
	if got := x.Paths(); !slices.Equal(got, want) {
		t.Fatal(got)
	}
}

func TestP14_2OwnMemory(t *testing.T) {
	x := wood(t)
	want := x.Paths()
	one := x.Paths()
	clear(one[:cap(one)])
	a, _ := x.Do(list("/"))
	clear(a.Names[:cap(a.Names)])
	b, _ := x.Do(read(0, 0, 9))
	b.Bytes = b.Bytes[:cap(b.Bytes)]
	for i := range b.Bytes {
		b.Bytes[i] = 'x'
	}
	if !slices.Equal(x.Paths(), want) {
		t.Fatal(x.Paths())
	}
	tells(t, x, list("/"), api.Answer{Names: []string{"d", "empty", "f"}})
	tells(t, x, read(0, 0, 9), api.Answer{N: 3, Bytes: []byte("eff")})
}

// TestP14_6HandedIn: bytes that were handed in are neither changed nor kept.
func TestP14_6HandedIn(t *testing.T) {
	x := New()
	does(t, x, create("/a"))
	room := []byte("abcdefgh")
	does(t, x, api.Call{Kind: api.CallWrite, Bytes: room[2:5]})
	if string(room) != "abcdefgh" {
		t.Fatal(string(room))
	}
	clear(room)
	tells(t, x, read(0, 0, 9), api.Answer{N: 3, Bytes: []byte("cde")})
}

// others are trees that differ from wood, and each other, in one thing alone.
func others(t *testing.T) []*Tree {
	var out []*Tree
	for _, calls := range [][]api.Call{
		{mkdir("/more")},
		{create("/more"), closed(3)},
		{rmdir("/empty")},
		{rename("/empty", "/Empty")},
		{rmdir("/empty"), create("/empty"), closed(3)}, // another kind
		{rename("/empty", "/d/empty")},
		{write(0, 1, "F")},
		{write(0, 3, "\x00")}, // another length
		{truncate(2, 300)},
		{truncate(2, 400)},
		{write(2, 0, "x")},
		{link("/f", "/more")},
		{unlink("/d/h"), create("/d/h"), write(3, 0, "eff"), closed(3)},        // two files with the same bytes
		{unlink("/d/h"), link("/d/e/i", "/d/h")},                               // another one's second name
		{create("/more"), write(3, 0, "eff"), closed(3), link("/f", "/more2")}, // as many links in all
		{create("/more2"), write(3, 0, "eff"), closed(3), link("/f", "/more")},
	} {
		x := wood(t)
		does(t, x, calls...)
		out = append(out, x)
	}
	return append(out, wood(t), New())
}

func TestP14_2Same(t *testing.T) {
	trees, twins := others(t), others(t)
	for i := range trees {
		for k := range twins {
			if got := trees[i].Same(twins[k]); got != (i == k) {
				t.Fatalf("%v and %v: %t", trees[i].Paths(), twins[k].Paths(), got)
			}
		}
	}
}

// TestP14_2SameLinks: the same paths with the same bytes, but names of other
// files.
func TestP14_2SameLinks(t *testing.T) {
	build := func(first, second, third string) *Tree {
		x := New()
		does(t, x, create("/a"), create("/b"), create("/c"), closed(0), closed(1), closed(2))
		does(t, x, link("/a", first), link("/b", second), link("/c", third))
		return x
	}
	for _, names := range [][3]string{{"/x", "/y", "/z"}, {"/y", "/x", "/z"}, {"/x", "/z", "/y"}, {"/z", "/x", "/y"}} {
		one := build("/x", "/y", "/z")
		if got := one.Same(build(names[0], names[1], names[2])); got != (names == [3]string{"/x", "/y", "/z"}) {
			t.Fatal(names, got)
		}
	}
	one, two := New(), New() // two files of two names each, or one of four; one of three
	does(t, one, create("/a"), link("/a", "/b"), create("/c"), link("/c", "/d"))
	does(t, two, create("/a"), link("/a", "/c"), create("/b"), link("/b", "/d"))
	if one.Same(two) || two.Same(one) {
		t.Fatal("they pair other names")
	}
}

// TestP14_2SamePast: how a tree came to be, and what its descriptors have, plays
// no part.
func TestP14_2SamePast(t *testing.T) {
	x, y := wood(t), wood(t)
	does(t, x, mkdir("/t"), create("/t/u"), write(3, 0, "x"), unlink("/t/u"), rmdir("/t"), write(0, 0, "\x00\x00\x00\x00"), truncate(0, 0), write(0, 0, "eff"))
	does(t, x, closed(0), closed(1), closed(2), opened("/d/e/i"))
	does(t, y, rename("/d/e", "/z"), unlink("/f"), link("/d/h", "/f"), rename("/z", "/d/e"), write(2, 300, "\x00"), write(2, 300, "i"))
	for range 3 {
		if !x.Same(y) || !y.Same(x) || !x.Same(x) {
			t.Fatal("they are the same")
		}
		x.Reopen()
	}
	does(t, x, create("/n")) // noughts that were written are those that were not
	does(t, y, create("/n"))
	does(t, x, write(0, 0, strings.Repeat("\x00", 300)))
	does(t, y, truncate(3, 300))
	if !x.Same(y) {
		t.Fatal("noughts are noughts")
	}
}

func TestP14_2NoTree(t *testing.T) {
	nils := []*Tree{nil, {}}
	for _, x := range nils {
		for kind := range api.NumCalls + 1 {
			if a, e := x.Do(api.Call{Kind: kind, Path: "/a"}); !same(a, api.Answer{}) || e != api.ErrNil {
				t.Fatal(kind, a, e)
			}
		}
		x.Reopen()
		if len(x.Paths()) != 0 || x.Copy() != nil {
			t.Fatal(x.Paths())
		}
		for _, y := range nils {
			if !x.Same(y) {
				t.Fatal("both are none")
			}
		}
		for _, y := range []*Tree{New(), wood(t)} {
			if x.Same(y) || y.Same(x) {
				t.Fatal("one is none")
			}
		}
	}
}

func TestP14_2Copy(t *testing.T) {
	x := wood(t)
	want := picture(x)
	y := x.Copy()
	if !x.Same(y) || !slices.Equal(picture(y), want) {
		t.Fatal(picture(y))
	}
	change := func(z *Tree) {
		does(t, z, mkdir("/d/e/g/new"), create("/new"), write(0, 1, "XX"), write(1, 0, "YY"), truncate(2, 5), unlink("/f"), rename("/empty", "/d/e/z"), closed(1), opened("/d/h"))
	}
	change(y)
	if is := picture(x); !slices.Equal(is, want) {
		t.Fatalf("it has changed with its copy: %v, was %v", is, want)
	}
	y = x.Copy()
	change(x)
	if is := picture(y); !slices.Equal(is, want) {
		t.Fatalf("the copy has changed with it: %v, was %v", is, want)
	}
	change(y)
	if !x.Same(y) || !slices.Equal(picture(x), picture(y)) {
		t.Fatal("both were changed alike")
	}
}

func TestP14_2Reopen(t *testing.T) {
	x := wood(t)
	does(t, x, opened("/f"), opened("/f"))
	y := x.Copy()
	x.Reopen()
	for fd := range api.MaxFDs {
		refuses(t, x, api.ErrFD, read(fd, 0, 1), closed(fd), fsync(fd))
	}
	if !x.Same(y) || !slices.Equal(x.Paths(), y.Paths()) {
		t.Fatal(x.Paths())
	}
	tells(t, x, opened("/f"), api.Answer{N: 0})
	tells(t, x, read(0, 0, 9), api.Answer{N: 3, Bytes: []byte("eff")})
	tells(t, y, read(0, 0, 9), api.Answer{N: 3, Bytes: []byte("eff")})
	if len(x.nodes) != len(y.nodes)-1 { // the file without a name
		t.Fatal(len(x.nodes), len(y.nodes))
	}
}

// TestP14_1Gone: what has neither a name nor a descriptor is kept no more.
func TestP14_1Gone(t *testing.T) {
	x := New()
	for range 3 {
		does(t, x, create("/a"), link("/a", "/b"), opened("/b"), unlink("/a"), unlink("/b"), closed(0))
		if len(x.nodes) != 2 {
			t.Fatal(len(x.nodes))
		}
		does(t, x, closed(1), mkdir("/c"), mkdir("/d"), rename("/c", "/d"), rmdir("/d"), create("/e"), create("/f"), closed(0), rename("/e", "/f"), closed(1), unlink("/f"))
		if len(x.nodes) != 1 {
			t.Fatal(len(x.nodes))
		}
	}
}

// TestP14_2Deep: moves make trees that are deeper than any path that may be
// handed in.
func TestP14_2Deep(t *testing.T) {
	x := New()
	does(t, x, mkdir("/top"), create("/top/leaf"), write(0, 0, "leaf"))
	const moves = 60
	for range moves {
		does(t, x, mkdir("/new"))
		path := "/new"
		for range 30 {
			path += "/d"
			does(t, x, mkdir(path))
		}
		does(t, x, rename("/top", path+"/t"), rename("/new", "/top"))
	}
	paths := x.Paths()
	if len(paths) != 1+moves*31+2 {
		t.Fatal(len(paths))
	}
	last := paths[len(paths)-1]
	if want := "/top" + strings.Repeat(deep(30)+"/t", moves) + "/leaf"; last != want || !slices.IsSorted(paths) {
		t.Fatal(last)
	}
	refuses(t, x, api.ErrLong, stat(last))
	y := x.Copy()
	if !x.Same(y) {
		t.Fatal("a copy is the same")
	}
	does(t, y, write(0, 0, "L"))
	if x.Same(y) {
		t.Fatal("its deepest file has other bytes")
	}
}

// TestP14_2Wide: many names, and many files of noughts, take neither long nor
// much.
func TestP14_2Wide(t *testing.T) {
	x := New()
	const many = 20000
	for n := range many {
		does(t, x, create("/"+strconv.Itoa(n)), truncate(0, api.MaxFile), write(0, api.MaxFile-1, "x"), closed(0))
	}
	a, e := x.Do(list("/"))
	if len(a.Names) != many || !slices.IsSorted(a.Names) || e != api.OK {
		t.Fatal(len(a.Names), e)
	}
	if y := x.Copy(); !x.Same(y) || len(y.Paths()) != many+1 {
		t.Fatal("a copy is the same")
	}
}

// partitions are all ways in which n paths may be names of files: for each path
// the first one that has its file.
func partitions(n int) [][]int {
	if n == 0 {
		return [][]int{nil}
	}
	var out [][]int
	for _, ahead := range partitions(n - 1) {
		for k := range n {
			if k == n-1 || ahead[k] == k {
				out = append(out, append(slices.Clone(ahead), k))
			}
		}
	}
	return out
}

// TestP14_2SamePartitions: the same paths, and all ways in which they may be
// names of files.
func TestP14_2SamePartitions(t *testing.T) {
	var trees []*Tree
	all := partitions(6)
	for _, first := range all {
		x := New()
		for k, f := range first {
			if path := "/" + strconv.Itoa(k); f == k {
				does(t, x, create(path))
			} else {
				does(t, x, link("/"+strconv.Itoa(f), path))
			}
		}
		trees = append(trees, x)
	}
	if len(trees) != 203 {
		t.Fatal(len(trees))
	}
	for i := range trees {
		for k := range trees {
			if trees[i].Same(trees[k]) != (i == k) {
				t.Fatal(all[i], all[k])
			}
		}
	}
}
