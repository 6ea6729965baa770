package sched

import (
	"bytes"
	"fmt"
	"math"
	"math/rand"
	"slices"
	"strings"
	"testing"

	"bollard/api"
	"bollard/crash"
	"bollard/disk"
	"bollard/file"
	"bollard/geom"
	"bollard/inode"
	"bollard/names"
	"bollard/scan"
	"bollard/tree"
	"bollard/vfs"
)

const (
	mostOnWay = 5 // so that each set of the writes on the way is tried
	allSets   = 4096
)

// player has users, writes, checkers and crashes play on a machine, and holds
// what it tells against P1 to P7. Each file has bytes of one value of its own,
// and noughts; its first byte is written as soon as it is opened.
type player struct {
	t      *testing.T
	source *rand.Rand
	m      *Machine
	steps  []api.Step
	log    []string // the steps, and what they told, in few words

	x       *tree.Tree // what users have made; nil, if a crash left a directory two names
	exact   bool       // no inode says more links than it has
	stored  *tree.Tree // what there was at the last sync; nil, as x
	touched []string   // the names that calls since then were about
	value   byte
	values  [api.MaxFDs]byte

	letters int  // of which names are made
	fails   bool // a read may fail in each call
	told    map[api.Errno]int
	crashes int
}

func newPlayer(t *testing.T, seed int64, g api.Geom) *player {
	t.Helper()
	return &player{
		t: t, source: rand.New(rand.NewSource(seed)), m: fresh(t, g),
		x: tree.New(), exact: true, stored: tree.New(), letters: 4, told: map[api.Errno]int{},
	}
}

// anyPath is one of few, so that most are there now and then.
func anyPath(source *rand.Rand) string {
	path := ""
	for range 1 + source.Intn(3) {
		path += "/" + string(rune('a'+source.Intn(4)))
	}
	return path
}

// said is a step in few words.
func said(s api.Step) string {
	c := s.Call
	switch s.Kind {
	case api.StepCall:
		return fmt.Sprint("call ", c.Kind, " fd ", c.FD, " off ", c.Off, " n ", c.N, " ", c.Path, " ", c.Other, " ", len(c.Bytes), " bytes")
	case api.StepAdjust:
		return fmt.Sprint("adjust ", s.Request)
	case api.StepCrash:
		return fmt.Sprintf("crash %x", s.Mask)
	}
	return fmt.Sprint("step ", s.Kind, " ", s.N)
}

func (p *player) fatal(args ...any) {
	p.t.Helper()
	p.t.Log("\n" + strings.Join(p.log, "\n"))
	p.t.Fatal(args...)
}

// do makes a step. Whatever it is, the image now and all that a crash can leave
// is accepted, and something gets on.
func (p *player) do(s api.Step) (api.Answer, api.Errno) {
	p.t.Helper()
	asked := p.m.Asked()
	a, e := p.attempt(s)
	p.told[e]++
	p.steps = append(p.steps, s)
	p.log = append(p.log, fmt.Sprint(said(s), " : ", e, asked))
	if why := scan.Accept(now(p.t, p.m)); why != api.OK {
		p.fatal("now:", why)
	}
	if reachesDisk(s) {
		if at, why := crash.Worst(p.m.Disk(), allSets); why != api.OK {
			p.fatal("behind a crash:", at, why)
		}
	}
	v := p.m.FS().Volume()
	if len(v.Dirty()) > 0 && len(v.Ready())+len(v.Way()) == 0 {
		p.fatal("nothing gets on")
	}
	return a, e
}

// attempt makes a step. If a read is to fail in a call, that is over behind it.
func (p *player) attempt(s api.Step) (api.Answer, api.Errno) {
	p.t.Helper()
	if s.Kind != api.StepCall || !p.fails {
		return p.m.Do(s)
	}
	was, last, open := now(p.t, p.m), p.m.FS().Volume().Last(), p.m.FS().Open()
	b := p.source.Intn(p.m.Disk().Blocks())
	answers(p.t, api.OK, p.m.Disk().Fail(b, 1))
	a, e := p.m.Do(s)
	answers(p.t, api.OK, p.m.Disk().Fail(b, 0))
	if e == api.ErrIO && (!sameImage(now(p.t, p.m), was) || p.m.FS().Volume().Last() != last || !slices.Equal(p.m.FS().Open(), open)) {
		p.fatal(s, "something has changed")
	}
	return a, e
}

// reachesDisk tells whether a step can change what is on the disk, or on the way
// there.
func reachesDisk(s api.Step) bool {
	switch s.Kind {
	case api.StepCall:
		return s.Call.Kind == api.CallSync || s.Call.Kind == api.CallFsync
	case api.StepSnap, api.StepCheck, api.StepAdjust, api.StepDrop:
		return false
	}
	return true
}

// must makes a step that has no error.
func (p *player) must(s api.Step) api.Answer {
	p.t.Helper()
	a, e := p.do(s)
	if e != api.OK {
		p.fatal(s, e)
	}
	return a
}

// call makes a user's call: as the tree means.
func (p *player) call(c api.Call) (api.Answer, api.Errno) {
	p.t.Helper()
	a, e := p.do(call(c))
	if p.x != nil {
		p.hold(c, a, e)
	}
	if e == api.OK {
		p.touched = append(p.touched, c.Path, c.Other)
	}
	if (c.Kind == api.CallSync || c.Kind == api.CallFsync) && e == api.OK {
		p.store()
	}
	return a, e
}

func (p *player) hold(c api.Call, a api.Answer, e api.Errno) {
	p.t.Helper()
	twin := p.x.Copy()
	want, why := twin.Do(c)
	if !p.exact { // links that a crash left
		want.Links, a.Links = 0, 0
	}
	switch {
	case e == api.ErrSpace, p.fails && e == api.ErrIO, !p.exact && e == api.ErrState:
		if !same(a, api.Answer{}) {
			p.fatal(c, a, e)
		}
		return
	case e != why || !same(a, want):
		p.fatal(c, a, e, "and not", want, why)
	}
	if c.Kind == api.CallWrite || c.Kind == api.CallTruncate {
		p.touchChanged(p.x, twin)
	}
	p.x = twin
	if p.source.Intn(8) == 0 {
		p.holdAll()
	}
}

// holdAll holds all names and bytes of the image now against the tree.
func (p *player) holdAll() {
	p.t.Helper()
	if is := treeOf(p.t, now(p.t, p.m)); !is.Same(p.x) {
		p.fatal("the tree is another one")
	}
}

// touchChanged notes the names of what has other bytes now.
func (p *player) touchChanged(was, is *tree.Tree) {
	for _, path := range is.Paths() {
		if !bytes.Equal(contentOf(was, path), contentOf(is, path)) {
			p.touched = append(p.touched, path)
		}
	}
}

func (p *player) store() {
	p.touched = nil
	p.stored = nil
	if p.x != nil {
		p.stored = p.x.Copy()
		p.stored.Reopen()
	}
}

// isTouched tells whether a call since the last sync was about a path, or about
// what leads to it.
func (p *player) isTouched(path string) bool {
	return slices.ContainsFunc(p.touched, func(at string) bool {
		return at != "" && (at == path || strings.HasPrefix(path, at+"/"))
	})
}

// contentOf is a file's bytes, or nil.
func contentOf(x *tree.Tree, path string) []byte {
	twin := x.Copy()
	twin.Reopen()
	if _, e := twin.Do(opened(path)); e != api.OK {
		return nil
	}
	a, _ := twin.Do(read(0, 0, api.MaxFile))
	return a.Bytes
}

// treeOf is the tree of an image; nil, if a directory has two names.
func treeOf(t *testing.T, image [][]byte) *tree.Tree {
	t.Helper()
	d, e := disk.Of(image)
	answers(t, api.OK, e)
	f, e := vfs.Mount(d)
	answers(t, api.OK, e)
	x := tree.New()
	first := map[int]string{}
	dirs := []string{""}
	for len(dirs) > 0 {
		l, e := f.Do(list(max(dirs[0], "/")))
		answers(t, api.OK, e)
		for _, name := range l.Names {
			path := dirs[0] + "/" + name
			ino, e := names.Walk(f.Volume(), f.Geom(), path)
			answers(t, api.OK, e)
			s, e := f.Do(stat(path))
			answers(t, api.OK, e)
			known, again := first[ino]
			first[ino] = path
			switch {
			case s.Mode == api.ModeDir && again:
				return nil
			case s.Mode == api.ModeDir:
				_, e = x.Do(mkdir(path))
				dirs = append(dirs, path)
			case again:
				_, e = x.Do(link(known, path))
			default:
				e = copyFile(f, x, path)
			}
			answers(t, api.OK, e)
		}
		dirs = dirs[1:]
	}
	return x
}

func copyFile(f *vfs.FS, x *tree.Tree, path string) api.Errno {
	if _, e := f.Do(opened(path)); e != api.OK {
		return e
	}
	a, e := f.Do(read(0, 0, api.MaxFile))
	if e != api.OK {
		return e
	}
	f.Do(closed(0))
	x.Do(create(path))
	_, e = x.Do(write(0, 0, a.Bytes))
	x.Do(closed(0))
	return e
}

// user makes a call of any kind.
func (p *player) user() {
	p.t.Helper()
	path, other := p.path(), p.path()
	fd := p.source.Intn(5)
	switch p.source.Intn(23) {
	case 0, 1, 2:
		p.call(mkdir(path))
	case 3, 4:
		if a, e := p.call(create(path)); e == api.OK {
			p.begin(a.N)
		}
	case 5:
		if a, e := p.call(opened(path)); e == api.OK {
			p.begin(a.N)
		}
	case 6, 7:
		p.call(closed(fd))
	case 8, 9, 10:
		p.fill(fd)
	case 11:
		p.call(truncate(fd, 1+p.source.Intn(1100)))
	case 12, 13:
		p.call(unlink(path))
	case 14, 15:
		p.call(rmdir(path))
	case 16, 17, 18:
		p.call(rename(path, other))
	case 19:
		p.call(link(path, other))
	case 20:
		p.look(path, fd)
	case 21:
		if p.source.Intn(4) == 0 {
			p.call([]api.Call{synced(), fsync(fd)}[p.source.Intn(2)])
		}
	case 22:
		p.call(p.wrongCall(path))
	}
}

func (p *player) wrongCall(path string) api.Call {
	all := []api.Call{
		{}, {Kind: -1}, {Kind: api.NumCalls}, {Kind: math.MaxInt}, mkdir("/"), mkdir(path + "/"), create(""), create("a"), opened("/"),
		rename(path, path+"/x"), rename("/", path), rename(path, "/"), link(path, "/"), unlink("/"), rmdir("/"), stat("//"), list(path + "/."),
		closed(-1), closed(api.MaxFDs), read(0, -1, 1), read(0, 0, -1), read(-1, 0, 0), write(0, -1, nil), write(0, api.MaxFile, []byte{1}),
		write(0, math.MaxInt, []byte{1}), truncate(0, -1), truncate(0, api.MaxFile+1), truncate(api.MaxFDs, 0), fsync(-1), mkdir(strings.Repeat("/a", api.MaxDepth+1)),
	}
	return all[p.source.Intn(len(all))]
}

// path is one that is there, or right below one, or any.
func (p *player) path() string {
	if p.x == nil || p.source.Intn(3) == 0 {
		return anyPath(p.source)
	}
	all := p.x.Paths()
	at := all[p.source.Intn(len(all))]
	if at != "/" && p.source.Intn(2) == 0 {
		return at
	}
	return strings.TrimSuffix(at, "/") + "/" + string(rune('a'+p.source.Intn(p.letters)))
}

func (p *player) look(path string, fd int) {
	p.t.Helper()
	p.call(stat(path))
	p.call(list(path))
	p.call(read(fd, p.source.Intn(300), p.source.Intn(900)))
}

// begin finds the value of a file that was just opened, or gives it one. A file
// for which there is no room is closed again.
func (p *player) begin(fd int) {
	p.t.Helper()
	a, e := p.call(read(fd, 0, 1))
	for p.fails && e == api.ErrIO {
		a, e = p.call(read(fd, 0, 1))
	}
	if e != api.OK {
		p.fatal(e)
	}
	if len(a.Bytes) > 0 {
		if p.values[fd] = a.Bytes[0]; a.Bytes[0] == 0 {
			p.fatal("a file whose first byte was never written")
		}
		return
	}
	p.value = p.value%255 + 1
	p.values[fd] = p.value
	if _, e := p.call(write(fd, 0, []byte{p.value})); e != api.OK {
		for e != api.OK {
			_, e = p.call(closed(fd))
		}
	}
}

func (p *player) fill(fd int) {
	p.t.Helper()
	off := p.source.Intn([]int{100, 700, 10000}[p.source.Intn(3)])
	many := p.source.Intn([]int{1, 9, 300}[p.source.Intn(3)]) + 1
	p.call(write(fd, off, bytes.Repeat([]byte{p.values[fd]}, many)))
}

// flush sends a block, or has a write done, or fail.
func (p *player) flush() {
	p.t.Helper()
	ready, way := len(p.m.FS().Volume().Ready()), len(p.m.Disk().Queue())
	switch r := p.source.Intn(9); {
	case r < 5 && ready > 0 && way < mostOnWay:
		p.must(send(p.source.Intn(1000) - 3))
	case r < 8 && way > 0:
		p.must(done(p.source.Intn(1000) - 3))
	case way > 0 && p.source.Intn(3) == 0:
		p.must(failed(p.source.Intn(1000) - 3))
	}
}

// quiet is a step of a snapshot, a checker, or adjusting.
func (p *player) quiet() {
	p.t.Helper()
	switch r := p.source.Intn(20); {
	case r == 0 && !p.m.Snap():
		p.must(snapped([]int{0, 3, 10000}[p.source.Intn(3)]))
	case r == 1 && p.m.Snap():
		p.must(dropped())
	case r < 12:
		p.check()
	case r < 17:
		p.adjust(adjusted())
	default:
		p.adjust(forged(p.anyRequest()))
	}
}

func (p *player) check() {
	p.t.Helper()
	if !p.m.Snap() {
		return
	}
	if _, e := p.do(checked()); e != api.OK && (e != api.ErrState || p.m.Snap() || len(p.m.Asked()) > 0) {
		p.fatal(e)
	}
}

func (p *player) anyRequest() api.Request {
	g := p.m.FS().Geom()
	r := api.Request{Kind: 1 + p.source.Intn(3), Gen: p.m.taken, To: p.source.Intn(3)}
	if r.Kind == api.FreeBlock {
		r.N = p.source.Intn(geom.Blocks(g))
	} else {
		r.N = p.source.Intn(geom.Inodes(g))
	}
	return r
}

// adjust makes a request: names and bytes are as they were, and of what was
// found to be wrong something is gone.
func (p *player) adjust(s api.Step) {
	p.t.Helper()
	was := now(p.t, p.m)
	before := leaks(p.t, was)
	if _, e := p.do(s); e != api.OK {
		if !sameImage(was, now(p.t, p.m)) {
			p.fatal("it was refused, and something has changed")
		}
		return
	}
	is := now(p.t, p.m)
	if x := treeOf(p.t, was); x != nil && !x.Same(treeOf(p.t, is)) {
		p.fatal("the tree is another one")
	}
	after := leaks(p.t, is)
	if len(after.Blocks)+len(after.Inodes)+len(after.Links) > len(before.Blocks)+len(before.Inodes)+len(before.Links) {
		p.fatal("there is more that leaks", before, after)
	}
}

// crash has any set of the writes done: what was synced is there, no file has
// another one's bytes.
func (p *player) crash() {
	p.t.Helper()
	p.crashWith(p.source.Uint64())
}

func (p *player) crashWith(mask uint64) {
	p.t.Helper()
	p.crashes++
	p.must(crashed(mask))
	if p.m.Snap() || len(p.m.Asked()) > 0 || len(p.m.FS().Open()) > 0 {
		p.fatal("something is left")
	}
	p.ownBytes()
	p.isStored()
	p.x = treeOf(p.t, now(p.t, p.m))
	p.exact = false
	p.stored, p.touched = p.x, nil
	if p.x != nil {
		p.stored = p.x.Copy()
	}
	p.values = [api.MaxFDs]byte{}
}

// everyFile visits each file that the root leads to. (Two names of a directory
// may make a ring of it, and of what stands in it.)
func (p *player) everyFile(visit func(content []byte)) {
	p.t.Helper()
	d, e := disk.Of(now(p.t, p.m))
	answers(p.t, api.OK, e)
	f, e := vfs.Mount(d)
	answers(p.t, api.OK, e)
	inodes, e := scan.Reach(d.Image())
	answers(p.t, api.OK, e)
	for _, ino := range inodes {
		if i, e := inode.Get(f.Volume(), f.Geom(), ino); e != api.OK || i.Mode == api.ModeDir {
			continue
		}
		content, e := file.Read(f.Volume(), f.Geom(), ino, 0, api.MaxFile)
		answers(p.t, api.OK, e)
		visit(content)
	}
}

func (p *player) ownBytes() {
	p.t.Helper()
	p.everyFile(func(content []byte) {
		if len(content) == 0 {
			return
		}
		if content[0] == 0 {
			p.fatal("the first byte is lost, and others are there")
		}
		for _, b := range content {
			if b != 0 && b != content[0] {
				p.fatal("a file has another one's bytes")
			}
		}
	})
}

func (p *player) isStored() {
	p.t.Helper()
	if p.stored == nil {
		return
	}
	is := now(p.t, p.m)
	d, e := disk.Of(is)
	answers(p.t, api.OK, e)
	f, e := vfs.Mount(d)
	answers(p.t, api.OK, e)
	for _, path := range p.stored.Paths() {
		if p.isTouched(path) {
			continue
		}
		want, _ := p.stored.Do(stat(path))
		got, e := f.Do(stat(path))
		if e != api.OK || got.Mode != want.Mode || got.Size != want.Size {
			p.fatal(path, "was synced, and is not there", got, e, want)
		}
		if want.Mode == api.ModeFile {
			f.Do(opened(path))
			a, e := f.Do(read(0, 0, api.MaxFile))
			if e != api.OK || !bytes.Equal(a.Bytes, contentOf(p.stored, path)) {
				p.fatal(path, "has not the bytes that were synced")
			}
			f.Do(closed(0))
		}
	}
}

// recover takes a snapshot, has it checked to its end and adjusts what is asked,
// while others go on: then nothing leaks.
func (p *player) recover(others func()) {
	p.t.Helper()
	if p.m.Snap() {
		p.must(dropped())
	}
	p.must(snapped(p.m.Disk().Blocks()))
	g := p.m.FS().Geom()
	steps := 0
	for p.m.Snap() || len(p.m.Asked()) > 0 {
		if p.source.Intn(3) == 0 {
			others()
		}
		if p.source.Intn(2) == 0 && p.m.Snap() {
			p.must(checked())
			steps++
		} else if len(p.m.Asked()) > 0 {
			p.adjust(adjusted())
		}
	}
	if steps > 3*geom.Inodes(g)+g.Groups {
		p.fatal(steps, "steps")
	}
	found := leaks(p.t, now(p.t, p.m))
	open := p.m.FS().Open()
	found.Inodes = slices.DeleteFunc(found.Inodes, func(ino int) bool { return slices.Contains(open, ino) })
	if !clean(found) {
		p.fatal("it leaks still:", found)
	}
	p.exact = p.x != nil
}

// play makes steps of all kinds.
func (p *player) play(steps int, crashes bool) {
	p.t.Helper()
	for range steps {
		switch r := p.source.Intn(60); {
		case r < 26:
			p.user()
		case r < 46:
			p.flush()
		case r < 58:
			p.quiet()
		case r < 59 && crashes && p.source.Intn(3) == 0:
			p.crash()
		case r < 60 && crashes && p.source.Intn(3) == 0:
			p.recover(func() {
				if p.source.Intn(2) == 0 {
					p.user()
				} else {
					p.flush()
				}
			})
		}
	}
}
