package tree

import (
	"math"
	"slices"
	"strconv"
	"strings"
	"testing"

	"bollard/api"
)

// The calls, in short.

func mkdir(path string) api.Call  { return api.Call{Kind: api.CallMkdir, Path: path} }
func create(path string) api.Call { return api.Call{Kind: api.CallCreate, Path: path} }
func opened(path string) api.Call { return api.Call{Kind: api.CallOpen, Path: path} }
func closed(fd int) api.Call      { return api.Call{Kind: api.CallClose, FD: fd} }
func unlink(path string) api.Call { return api.Call{Kind: api.CallUnlink, Path: path} }
func rmdir(path string) api.Call  { return api.Call{Kind: api.CallRmdir, Path: path} }
func stat(path string) api.Call   { return api.Call{Kind: api.CallStat, Path: path} }
func list(path string) api.Call   { return api.Call{Kind: api.CallList, Path: path} }
func fsync(fd int) api.Call       { return api.Call{Kind: api.CallFsync, FD: fd} }
func truncate(fd, n int) api.Call { return api.Call{Kind: api.CallTruncate, FD: fd, N: n} }
func read(fd, off, n int) api.Call {
	return api.Call{Kind: api.CallRead, FD: fd, Off: off, N: n}
}
func write(fd, off int, b string) api.Call {
	return api.Call{Kind: api.CallWrite, FD: fd, Off: off, Bytes: []byte(b)}
}
func rename(path, other string) api.Call {
	return api.Call{Kind: api.CallRename, Path: path, Other: other}
}
func link(path, other string) api.Call {
	return api.Call{Kind: api.CallLink, Path: path, Other: other}
}

// same tells whether two answers are, nil and empty lists being so.
func same(a, b api.Answer) bool {
	return a.N == b.N && a.Mode == b.Mode && a.Links == b.Links && a.Size == b.Size &&
		slices.Equal(a.Bytes, b.Bytes) && slices.Equal(a.Names, b.Names)
}

// does fails unless each call tells OK, and nothing beside it but N.
func does(t *testing.T, x *Tree, calls ...api.Call) {
	t.Helper()
	for _, c := range calls {
		a, e := x.Do(c)
		if e != api.OK || !same(a, api.Answer{N: a.N}) {
			t.Fatalf("%v: %v, %v", c, a, e)
		}
	}
}

// tells fails unless a call tells that.
func tells(t *testing.T, x *Tree, c api.Call, want api.Answer) {
	t.Helper()
	if a, e := x.Do(c); !same(a, want) || e != api.OK {
		t.Fatalf("%v: %v, %v; want %v", c, a, e, want)
	}
}

// picture is all that later calls could tell of a tree: what has a path, and
// what descriptors have. It works on a copy.
func picture(x *Tree) []string {
	x = x.Copy()
	var out []string
	add := func(what string, a api.Answer, e api.Errno) {
		out = append(out, what+" "+strconv.Itoa(int(e))+" "+strconv.Itoa(a.N)+" "+strconv.Itoa(a.Mode)+" "+strconv.Itoa(a.Links)+" "+strconv.Itoa(a.Size)+" "+string(a.Bytes)+" "+strings.Join(a.Names, ","))
	}
	for fd := range api.MaxFDs {
		a, e := x.Do(read(fd, 0, api.MaxFile))
		add("fd "+strconv.Itoa(fd), a, e)
	}
	for fd := range api.MaxFDs { // which of them have one file
		x.Do(truncate(fd, 7+fd))
	}
	for fd := range api.MaxFDs {
		a, e := x.Do(read(fd, 0, api.MaxFile))
		add("fd "+strconv.Itoa(fd), api.Answer{N: a.N}, e)
	}
	for _, path := range x.Paths() {
		a, e := x.Do(stat(path))
		add(path, a, e)
		x.Do(closed(0))
		if a, e := x.Do(opened(path)); e == api.OK { // what it has, and which others have it
			b, e := x.Do(read(a.N, 0, api.MaxFile))
			add(path, b, e)
			x.Do(write(a.N, 0, path))
		}
	}
	return out
}

// refuses fails unless a call tells that error and nothing beside it, and
// changes nothing.
func refuses(t *testing.T, x *Tree, want api.Errno, calls ...api.Call) {
	t.Helper()
	for _, c := range calls {
		was := picture(x)
		twin := x.Copy()
		a, e := x.Do(c)
		if e != want || !same(a, api.Answer{}) {
			t.Fatalf("%v: %v, %v; want %v", c, a, e, want)
		}
		if is := picture(x); !slices.Equal(is, was) || !x.Same(twin) {
			t.Fatalf("%v has changed something: %v, was %v", c, is, was)
		}
	}
}

// wild are numbers that are no descriptor.
func wild() []int {
	return []int{math.MinInt, math.MinInt + 1, math.MinInt32, -1 << 32, -17, -16, -1, 16, 17, math.MaxInt32, 1 << 32, math.MaxInt - 1, math.MaxInt}
}

// deep is a path of so many names.
func deep(n int) string {
	return strings.Repeat("/d", n)
}

// wrongPaths are paths that are none, and the error of each.
func wrongPaths() map[string]api.Errno {
	return map[string]api.Errno{
		"": api.ErrName, "a": api.ErrName, "//": api.ErrName, "/a/": api.ErrName, "/.": api.ErrName, "/..": api.ErrName, "/d/../a": api.ErrName,
		"/a b": api.ErrName, "/\x00": api.ErrName, "/é": api.ErrName, "/abcdefghijklmn": api.ErrName, strings.Repeat("/", 1<<16): api.ErrName,
		deep(33): api.ErrLong, strings.Repeat("/x", 1<<15): api.ErrLong, deep(40) + "/": api.ErrName,
	}
}

// wood is a tree with all kinds of things: directories /d, /d/e, /d/e/g, /empty,
// files /f (also /d/h) and /d/e/i. Descriptor 0 has /f, 1 a file that has no
// name any more, 2 has /d/e/i, and 3 none.
func wood(t *testing.T) *Tree {
	t.Helper()
	x := New()
	does(t, x, mkdir("/d"), mkdir("/d/e"), mkdir("/d/e/g"), mkdir("/empty"), create("/f"), link("/f", "/d/h"), create("/gone"), unlink("/gone"), create("/d/e/i"))
	does(t, x, write(0, 0, "eff"), write(1, 2, "gone"), write(2, 300, "i"))
	return x
}

func TestP14_1New(t *testing.T) {
	x := New()
	if !slices.Equal(x.Paths(), []string{"/"}) {
		t.Fatal(x.Paths())
	}
	tells(t, x, stat("/"), api.Answer{Mode: api.ModeDir, Links: 2})
	tells(t, x, list("/"), api.Answer{})
	for fd := -1; fd <= api.MaxFDs; fd++ {
		refuses(t, x, api.ErrFD, closed(fd), fsync(fd))
	}
	if x == New() {
		t.Fatal("it is no new one")
	}
}

func TestP14_1Example(t *testing.T) {
	x := New()
	tells(t, x, create("/a"), api.Answer{N: 0})
	does(t, x, unlink("/a"))
	tells(t, x, write(0, 0, "abc"), api.Answer{N: 3})
	refuses(t, x, api.ErrAbsent, stat("/a"))
	does(t, x, closed(0))
	refuses(t, x, api.ErrFD, closed(0), read(0, 0, 1), write(0, 0, "x"))
}

func TestP14_1Kinds(t *testing.T) {
	x := wood(t)
	for _, kind := range []int{0, api.NumCalls, api.NumCalls + 1, -1, math.MinInt, math.MaxInt, 1 << 32, 1<<32 + 1, 257} {
		refuses(t, x, api.ErrArg, api.Call{Kind: kind, Path: "/z", Other: "/y"}, api.Call{Kind: kind, Path: "a", FD: -1})
	}
	tells(t, x, api.Call{Kind: api.CallSync, FD: -1, Path: "bad", Off: -1, N: -1}, api.Answer{})
}

// TestP14_1WrongPaths: each call that has a path tells what is wrong with it.
func TestP14_1WrongPaths(t *testing.T) {
	x := wood(t)
	for path, why := range wrongPaths() {
		refuses(t, x, why, mkdir(path), create(path), opened(path), unlink(path), rmdir(path), stat(path), list(path),
			rename(path, path), rename(path, "/"), link(path, path), link(path, "/"), rename("/f", path), rename("/d", path), link("/f", path))
	}
}

// TestP14_1Absent: names on the way, and at its end, that are not there, or are
// files.
func TestP14_1Absent(t *testing.T) {
	x := wood(t)
	refuses(t, x, api.ErrAbsent, mkdir("/n/a"), create("/d/n/a"), mkdir("/n/f/a"), rename("/f", "/n/a"), link("/f", "/d/n/a"), rename("/d", "/d/n/a"))
	refuses(t, x, api.ErrNotDir, mkdir("/f/a"), create("/f/a/b"), mkdir("/d/h/a"), rename("/f", "/f/a"), link("/f", "/f/a"), rename("/d", "/f/a/b"), rename("/d", "/d/h/a"))
	for _, path := range []string{"/n", "/d/n", "/n/a", "/d/n/a", "/n/f/a", "/F"} {
		refuses(t, x, api.ErrAbsent, opened(path), unlink(path), rmdir(path), stat(path), list(path), rename(path, "/"), rename(path, "bad"), link(path, "/"), link(path, "bad"))
	}
	for _, path := range []string{"/f/a", "/f/a/b", "/d/h/a", "/d/e/i/i/i"} {
		refuses(t, x, api.ErrNotDir, opened(path), unlink(path), rmdir(path), stat(path), list(path), rename(path, "/"), rename(path, "bad"), link(path, "/"), link(path, "bad"))
	}
}

func TestP14_1Root(t *testing.T) {
	x := wood(t)
	refuses(t, x, api.ErrExists, mkdir("/"), create("/"))
	refuses(t, x, api.ErrArg, unlink("/"), rmdir("/"), rename("/", "/"), rename("/", "bad"), rename("/f", "/"), rename("/d", "/"), link("/", "bad"), link("/", "/f"), link("/f", "/"))
	refuses(t, x, api.ErrDir, opened("/"))
	tells(t, x, stat("/"), api.Answer{Mode: api.ModeDir, Links: 4})
	tells(t, x, list("/"), api.Answer{Names: []string{"d", "empty", "f"}})
}

func TestP14_1Mkdir(t *testing.T) {
	x := wood(t)
	refuses(t, x, api.ErrExists, mkdir("/d"), mkdir("/f"), mkdir("/d/h"), mkdir("/d/e/g"))
	does(t, x, mkdir("/d/new"), mkdir("/d/new/new"))
	tells(t, x, stat("/d/new"), api.Answer{Mode: api.ModeDir, Links: 3})
	tells(t, x, stat("/d/new/new"), api.Answer{Mode: api.ModeDir, Links: 2})
	tells(t, x, stat("/d"), api.Answer{Mode: api.ModeDir, Links: 4})
	y := New()
	for n := range api.MaxDepth {
		does(t, y, mkdir(deep(n+1)))
	}
	tells(t, y, stat(deep(32)), api.Answer{Mode: api.ModeDir, Links: 2})
	refuses(t, y, api.ErrLong, mkdir(deep(33)))
}

// crowded is a directory that has as many links as may be: 998 directories, and
// files beside them.
func crowded(t *testing.T, x *Tree, dir string) {
	t.Helper()
	does(t, x, mkdir(dir))
	for n := range api.MaxLinks - 2 {
		does(t, x, mkdir(dir+"/"+strconv.Itoa(n)))
	}
	does(t, x, create(dir+"/file"), closed(0))
	tells(t, x, stat(dir), api.Answer{Mode: api.ModeDir, Links: api.MaxLinks})
}

func TestP14_1MkdirLinks(t *testing.T) {
	x := New()
	crowded(t, x, "/c")
	refuses(t, x, api.ErrLinks, mkdir("/c/more"))
	refuses(t, x, api.ErrExists, mkdir("/c/file"), mkdir("/c/0")) // ahead of ErrLinks
	does(t, x, create("/c/more"), rmdir("/c/0"), mkdir("/c/0"))
	refuses(t, x, api.ErrLinks, mkdir("/c/1000"))
}

func TestP14_1Create(t *testing.T) {
	x := wood(t)
	refuses(t, x, api.ErrExists, create("/d"), create("/f"), create("/d/h"))
	tells(t, x, create("/new"), api.Answer{N: 3})
	tells(t, x, stat("/new"), api.Answer{Mode: api.ModeFile, Links: 1})
	does(t, x, closed(1))
	tells(t, x, create("/d/new"), api.Answer{N: 1}) // the lowest
	for fd := 4; fd < api.MaxFDs; fd++ {
		tells(t, x, create("/x"+strconv.Itoa(fd)), api.Answer{N: fd})
	}
	refuses(t, x, api.ErrMany, create("/y"), create("/d/y"), opened("/f"))
	refuses(t, x, api.ErrExists, create("/x4"), create("/d")) // ahead of ErrMany
	refuses(t, x, api.ErrAbsent, create("/n/y"), opened("/y"))
	refuses(t, x, api.ErrDir, opened("/d"))
	does(t, x, closed(15))
	tells(t, x, create("/y"), api.Answer{N: 15})
}

func TestP14_1Open(t *testing.T) {
	x := wood(t)
	refuses(t, x, api.ErrDir, opened("/"), opened("/d"), opened("/empty"))
	tells(t, x, opened("/d/h"), api.Answer{N: 3})
	tells(t, x, opened("/d/h"), api.Answer{N: 4})
	tells(t, x, read(3, 0, 9), api.Answer{N: 3, Bytes: []byte("eff")})
	does(t, x, write(4, 1, "x")) // all three have one file
	tells(t, x, read(0, 0, 9), api.Answer{N: 3, Bytes: []byte("exf")})
	does(t, x, closed(0), closed(3))
	tells(t, x, opened("/d/e/i"), api.Answer{N: 0})
	tells(t, x, opened("/d/e/i"), api.Answer{N: 3})
	tells(t, x, read(4, 0, 9), api.Answer{N: 3, Bytes: []byte("exf")})
}

func TestP14_1Descriptors(t *testing.T) {
	x := wood(t)
	for _, fd := range append(wild(), 3, 15) {
		refuses(t, x, api.ErrFD, closed(fd), fsync(fd), read(fd, 0, 1), read(fd, -1, -1), write(fd, 0, "x"), write(fd, -1, "x"), write(fd, math.MaxInt, "x"), write(fd, 0, ""),
			truncate(fd, 0), truncate(fd, -1), truncate(fd, math.MaxInt))
	}
	does(t, x, fsync(0), fsync(1), closed(1))
	refuses(t, x, api.ErrFD, fsync(1), closed(1), read(1, 0, 1))
	does(t, x, fsync(0), fsync(2))
}

func TestP14_1Read(t *testing.T) {
	x := New()
	text := strings.Repeat("0123456789", 40)
	does(t, x, create("/a"), write(0, 0, text))
	for _, off := range []int{0, 1, 127, 128, 129, 255, 256, 399, 400, 401, api.MaxFile, math.MaxInt} {
		for _, n := range []int{0, 1, 127, 128, 129, 300, 399, 400, 401, math.MaxInt} {
			want := ""
			if off < len(text) {
				want = text[off:]
				want = want[:min(n, len(want))]
			}
			tells(t, x, read(0, off, n), api.Answer{N: len(want), Bytes: []byte(want)})
		}
	}
	for _, n := range []int{-1, -128, math.MinInt} {
		refuses(t, x, api.ErrArg, read(0, n, 5), read(0, 5, n), read(0, n, n), read(0, math.MaxInt, n))
	}
}

func TestP14_1Write(t *testing.T) {
	x := New()
	does(t, x, create("/a"), create("/b"))
	tells(t, x, write(0, 3, "hey"), api.Answer{N: 3})
	tells(t, x, read(0, 0, 99), api.Answer{N: 6, Bytes: []byte("\x00\x00\x00hey")})
	tells(t, x, write(0, 5, "you"), api.Answer{N: 3})
	tells(t, x, read(0, 0, 99), api.Answer{N: 8, Bytes: []byte("\x00\x00\x00heyou")})
	tells(t, x, write(0, 1, "I"), api.Answer{N: 1})
	tells(t, x, read(0, 0, 99), api.Answer{N: 8, Bytes: []byte("\x00I\x00heyou")})
	tells(t, x, stat("/a"), api.Answer{Mode: api.ModeFile, Links: 1, Size: 8})
	tells(t, x, stat("/b"), api.Answer{Mode: api.ModeFile, Links: 1})
	tells(t, x, write(0, 300, ""), api.Answer{}) // without bytes nothing
	tells(t, x, write(0, api.MaxFile, ""), api.Answer{})
	tells(t, x, stat("/a"), api.Answer{Mode: api.ModeFile, Links: 1, Size: 8})
	for _, off := range []int{-1, math.MinInt} {
		refuses(t, x, api.ErrArg, write(0, off, ""), write(0, off, "x"), write(0, off, strings.Repeat("x", api.MaxFile+1)))
	}
	whole := strings.Repeat("z", api.MaxFile)
	refuses(t, x, api.ErrBig, write(0, api.MaxFile, "x"), write(0, api.MaxFile+1, ""), write(0, math.MaxInt, ""), write(0, math.MaxInt, "x"), write(0, math.MaxInt-1, "xx"), write(0, 1, whole), write(0, 0, whole+"z"))
	tells(t, x, write(1, api.MaxFile-2, "xy"), api.Answer{N: 2})
	tells(t, x, read(1, api.MaxFile-3, 9), api.Answer{N: 3, Bytes: []byte("\x00xy")})
	tells(t, x, write(0, 0, whole), api.Answer{N: api.MaxFile})
	tells(t, x, read(0, 0, math.MaxInt), api.Answer{N: api.MaxFile, Bytes: []byte(whole)})
}

func TestP14_1Truncate(t *testing.T) {
	text := strings.Repeat("abcdefg", 60)
	for _, to := range []int{0, 1, 127, 128, 129, 255, 256, 257, 419, 420} {
		x := New()
		does(t, x, create("/a"), write(0, 0, text), truncate(0, to))
		tells(t, x, read(0, 0, 999), api.Answer{N: to, Bytes: []byte(text[:to])})
		for _, then := range []int{to, to + 1, 420, 421, 600, api.MaxFile} { // what was beyond the end does not come again
			does(t, x, truncate(0, then))
			want := text[:to] + strings.Repeat("\x00", then-to)
			tells(t, x, read(0, 0, math.MaxInt), api.Answer{N: then, Bytes: []byte(want)})
			does(t, x, truncate(0, to))
		}
		does(t, x, write(0, 500, "end"))
		want := text[:to] + strings.Repeat("\x00", 500-to) + "end"
		tells(t, x, read(0, 0, 999), api.Answer{N: 503, Bytes: []byte(want)})
	}
	x := wood(t)
	for _, n := range []int{-1, -128, math.MinInt} {
		refuses(t, x, api.ErrArg, truncate(0, n))
	}
	for _, n := range []int{api.MaxFile + 1, math.MaxInt} {
		refuses(t, x, api.ErrBig, truncate(0, n))
	}
	does(t, x, truncate(0, api.MaxFile))
	tells(t, x, stat("/f"), api.Answer{Mode: api.ModeFile, Links: 2, Size: api.MaxFile})
}

func TestP14_1Unlink(t *testing.T) {
	x := wood(t)
	refuses(t, x, api.ErrDir, unlink("/d"), unlink("/empty"))
	does(t, x, unlink("/f"))
	refuses(t, x, api.ErrAbsent, unlink("/f"), stat("/f"))
	tells(t, x, stat("/d/h"), api.Answer{Mode: api.ModeFile, Links: 1, Size: 3})
	does(t, x, unlink("/d/h"))
	tells(t, x, read(0, 0, 9), api.Answer{N: 3, Bytes: []byte("eff")})
	does(t, x, write(0, 3, "s"), create("/f"))
	tells(t, x, stat("/f"), api.Answer{Mode: api.ModeFile, Links: 1}) // another one
	tells(t, x, read(0, 0, 9), api.Answer{N: 4, Bytes: []byte("effs")})
}

func TestP14_1Rmdir(t *testing.T) {
	x := wood(t)
	refuses(t, x, api.ErrNotDir, rmdir("/f"), rmdir("/d/h"))
	refuses(t, x, api.ErrFull, rmdir("/d"), rmdir("/d/e"))
	does(t, x, rmdir("/empty"), rmdir("/d/e/g"))
	tells(t, x, stat("/"), api.Answer{Mode: api.ModeDir, Links: 3})
	tells(t, x, stat("/d/e"), api.Answer{Mode: api.ModeDir, Links: 2})
	refuses(t, x, api.ErrFull, rmdir("/d/e")) // a file is left
	does(t, x, unlink("/d/e/i"), rmdir("/d/e"), unlink("/d/h"), rmdir("/d"))
	if !slices.Equal(x.Paths(), []string{"/", "/f"}) {
		t.Fatal(x.Paths())
	}
}

func TestP14_1Link(t *testing.T) {
	x := wood(t)
	refuses(t, x, api.ErrDir, link("/d", "/new"), link("/d", "/"), link("/d", "bad"), link("/empty", "/d/e"))
	refuses(t, x, api.ErrExists, link("/f", "/f"), link("/f", "/d"), link("/f", "/d/h"), link("/f", "/d/e/i"))
	does(t, x, link("/f", "/d/e/g/new"))
	tells(t, x, stat("/d/e/g/new"), api.Answer{Mode: api.ModeFile, Links: 3, Size: 3})
	tells(t, x, stat("/d/e/g"), api.Answer{Mode: api.ModeDir, Links: 2})
	does(t, x, write(0, 0, "EFF"), opened("/d/e/g/new"))
	tells(t, x, read(3, 0, 9), api.Answer{N: 3, Bytes: []byte("EFF")})
}

// linked is a file, /l/0, with as many links as may be.
func linked(t *testing.T, x *Tree) {
	t.Helper()
	does(t, x, mkdir("/l"), create("/l/0"), closed(0))
	for n := 1; n < api.MaxLinks; n++ {
		does(t, x, link("/l/0", "/l/"+strconv.Itoa(n)))
	}
	tells(t, x, stat("/l/999"), api.Answer{Mode: api.ModeFile, Links: api.MaxLinks})
}

func TestP14_1LinkLinks(t *testing.T) {
	x := New()
	linked(t, x)
	refuses(t, x, api.ErrLinks, link("/l/0", "/l/more"), link("/l/999", "/more"))
	refuses(t, x, api.ErrExists, link("/l/0", "/l/1")) // ahead of ErrLinks
	does(t, x, unlink("/l/0"), link("/l/1", "/more"))
	refuses(t, x, api.ErrLinks, link("/more", "/more2"))
}

func TestP14_1Stat(t *testing.T) {
	x := wood(t)
	for path, want := range map[string]api.Answer{
		"/": {Mode: api.ModeDir, Links: 4}, "/d": {Mode: api.ModeDir, Links: 3}, "/d/e": {Mode: api.ModeDir, Links: 3}, "/d/e/g": {Mode: api.ModeDir, Links: 2}, "/empty": {Mode: api.ModeDir, Links: 2},
		"/f": {Mode: api.ModeFile, Links: 2, Size: 3}, "/d/h": {Mode: api.ModeFile, Links: 2, Size: 3}, "/d/e/i": {Mode: api.ModeFile, Links: 1, Size: 301},
	} {
		tells(t, x, stat(path), want)
	}
}

func TestP14_1List(t *testing.T) {
	x := wood(t)
	refuses(t, x, api.ErrNotDir, list("/f"), list("/d/h"))
	names := []string{"zz", "a", "~", "!", "B", "a.", "aa", "A", "abcdefghijklm", "-"}
	for _, name := range names {
		does(t, x, mkdir("/empty/"+name))
	}
	slices.Sort(names)
	tells(t, x, list("/empty"), api.Answer{Names: names})
	tells(t, x, list("/d"), api.Answer{Names: []string{"e", "h"}})
	tells(t, x, list("/d/e/g"), api.Answer{})
}
