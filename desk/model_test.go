package desk

import (
	"bytes"
	"encoding/hex"
	"fmt"
	"math/rand"
	"slices"
	"strings"
	"testing"

	"bollard/adjust"
	"bollard/api"
	"bollard/crash"
	"bollard/scan"
	"bollard/sched"
	"bollard/tree"
)

// writer writes a script of any commands, plays the same steps on a machine of
// its own, and notes what the document has each line answer.
type writer struct {
	t       *testing.T
	source  *rand.Rand
	m       *sched.Machine
	x       *tree.Tree // what users have made since make; nil behind a crash
	lines   []string
	want    []string
	crashes int
}

func newWriter(t *testing.T, seed int64) *writer {
	t.Helper()
	w := &writer{t: t, source: rand.New(rand.NewSource(seed))}
	w.begin()
	return w
}

func (w *writer) note(answer string, parts ...any) {
	w.lines = append(w.lines, strings.TrimSpace(fmt.Sprintln(parts...)))
	w.want = append(w.want, answer)
}

func (w *writer) text() string {
	return strings.Join(w.lines, "\n")
}

func (w *writer) begin() {
	all := []api.Geom{{Groups: 1, Blocks: 32, Inodes: 8}, {Groups: 2, Blocks: 16, Inodes: 8}, {Groups: 3, Blocks: 40, Inodes: 16}, {Groups: 1, Blocks: 8, Inodes: 4}, {Groups: 9, Blocks: 9, Inodes: 9}, {}}
	g := all[w.source.Intn(len(all))]
	m, e := sched.New(g)
	answer := "made"
	if e != api.OK {
		answer = fmt.Sprint("error ", int(e))
	} else {
		w.m, w.x = m, tree.New()
	}
	w.note(answer, "make", g.Groups, g.Blocks, g.Inodes)
	if w.m == nil {
		w.begin()
	}
}

// path is one of few.
func (w *writer) path() string {
	path := ""
	for range []int{1, 1, 1, 2, 2, 3}[w.source.Intn(6)] {
		path += "/" + string(rune('a'+w.source.Intn(3)))
	}
	if w.source.Intn(12) == 0 {
		path = []string{"/", "a", "/a/", "//"}[w.source.Intn(4)]
	}
	return path
}

func (w *writer) number() int {
	return []int{0, 0, 0, 1, 1, 2, 3, 5, 100, 127, 128, 300, -1, 9999999999, -9999999999}[w.source.Intn(15)]
}

// step makes a step, and notes its line.
func (w *writer) step(s api.Step, answer func(api.Answer) string, parts ...any) {
	a, e := w.m.Do(s)
	switch {
	case s.Kind == api.StepCall:
		w.hold(s.Call, a, e)
	case s.Kind == api.StepCrash:
		w.x = nil
		w.crashes++
	}
	if e != api.OK {
		w.note(fmt.Sprint("error ", int(e)), parts...)
		return
	}
	w.note(answer(a), parts...)
}

// hold is P1: each call tells what the tree tells, or that there is no room.
func (w *writer) hold(c api.Call, a api.Answer, e api.Errno) {
	if w.x == nil || e == api.ErrSpace {
		return
	}
	want, why := w.x.Do(c)
	if e != why || a.N != want.N || !bytes.Equal(a.Bytes, want.Bytes) || !slices.Equal(a.Names, want.Names) || a.Mode != want.Mode || a.Links != want.Links || a.Size != want.Size {
		w.t.Fatal(c, a, e, "and not", want, why)
	}
}

func ok(api.Answer) string { return "ok" }

func (w *writer) call(c api.Call, answer func(api.Answer) string, parts ...any) {
	w.step(api.Step{Kind: api.StepCall, Call: c}, answer, parts...)
}

func (w *writer) ofPath() {
	path, other := w.path(), w.path()
	switch w.source.Intn(10) {
	case 0:
		w.call(api.Call{Kind: api.CallMkdir, Path: path}, ok, "mkdir", path)
	case 1:
		w.call(api.Call{Kind: api.CallUnlink, Path: path}, ok, "unlink", path)
	case 2:
		w.call(api.Call{Kind: api.CallRmdir, Path: path}, ok, "rmdir", path)
	case 3, 4:
		w.call(api.Call{Kind: api.CallCreate, Path: path}, func(a api.Answer) string { return fmt.Sprintf("fd %d", a.N) }, "create", path)
	case 5:
		w.call(api.Call{Kind: api.CallOpen, Path: path}, func(a api.Answer) string { return fmt.Sprintf("fd %d", a.N) }, "open", path)
	case 6:
		w.call(api.Call{Kind: api.CallStat, Path: path}, func(a api.Answer) string {
			return fmt.Sprintf("%s %d %d", map[int]string{api.ModeFile: "file", api.ModeDir: "dir"}[a.Mode], a.Links, a.Size)
		}, "stat", path)
	case 7:
		w.call(api.Call{Kind: api.CallList, Path: path}, func(a api.Answer) string {
			return strings.TrimSpace("list " + strings.Join(a.Names, " "))
		}, "list", path)
	case 8:
		w.call(api.Call{Kind: api.CallRename, Path: path, Other: other}, ok, "rename", path, other)
	case 9:
		w.call(api.Call{Kind: api.CallLink, Path: path, Other: other}, ok, "link", path, other)
	}
}

func (w *writer) ofFile() {
	fd, off, n := w.source.Intn(4)-w.source.Intn(2), w.number(), w.number()
	wrote := func(a api.Answer) string { return fmt.Sprintf("wrote %d", a.N) }
	switch w.source.Intn(7) {
	case 0:
		w.call(api.Call{Kind: api.CallClose, FD: fd}, ok, "close", fd)
	case 1:
		w.call(api.Call{Kind: api.CallFsync, FD: fd}, ok, "fsync", fd)
	case 2:
		w.call(api.Call{Kind: api.CallTruncate, FD: fd, N: n}, ok, "cut", fd, n)
	case 3:
		w.call(api.Call{Kind: api.CallRead, FD: fd, Off: off, N: n}, func(a api.Answer) string {
			if a.N == 0 {
				return "read -"
			}
			return "read " + hex.EncodeToString(a.Bytes)
		}, "read", fd, off, n)
	case 4:
		word := []string{"x", "hello", "\xff\x00", strings.Repeat("long", 99), "-", "7"}[w.source.Intn(6)]
		w.call(api.Call{Kind: api.CallWrite, FD: fd, Off: off, Bytes: []byte(word)}, wrote, "write", fd, off, word)
	case 5:
		n := []int{0, 1, 128, 500, 1000, 9999}[w.source.Intn(6)]
		w.call(api.Call{Kind: api.CallWrite, FD: fd, Off: off, Bytes: bytes.Repeat([]byte("z"), n)}, wrote, "fill", fd, off, n, "zebra")
	case 6:
		w.call(api.Call{Kind: api.CallSync}, ok, "sync")
	}
}

func (w *writer) ofMachine() {
	n := w.number()
	switch w.source.Intn(12) {
	case 0, 1, 2:
		w.step(api.Step{Kind: api.StepWrite, N: n}, ok, "flush", n)
	case 3, 4:
		w.step(api.Step{Kind: api.StepComplete, N: n}, ok, "done", n)
	case 5:
		w.step(api.Step{Kind: api.StepFail, N: n}, ok, "fail", n)
	case 6:
		w.step(api.Step{Kind: api.StepSnap, N: n}, ok, "snap", n)
	case 7:
		for range 1 + w.source.Intn(30) {
			w.step(api.Step{Kind: api.StepCheck}, ok, "check")
		}
	case 8:
		w.step(api.Step{Kind: api.StepAdjust}, ok, "adjust")
	case 9:
		r := api.Request{Kind: w.source.Intn(5), N: w.source.Intn(40), To: w.number(), Gen: w.source.Intn(3)}
		w.step(api.Step{Kind: api.StepAdjust, Request: r}, ok, "forge", r.Kind, r.N, r.To, r.Gen)
	case 10:
		if w.source.Intn(4) == 0 {
			w.step(api.Step{Kind: api.StepDrop}, ok, "drop")
		}
	case 11:
		if w.source.Intn(3) == 0 {
			mask := max(w.number(), w.source.Intn(32))
			w.step(api.Step{Kind: api.StepCrash, Mask: uint64(mask)}, ok, "crash", mask)
			w.recover()
		}
	}
}

// recover has what a crash left checked and adjusted, while users go on.
func (w *writer) recover() {
	w.step(api.Step{Kind: api.StepSnap, N: 99}, ok, "snap", 99)
	for w.m.Snap() {
		w.step(api.Step{Kind: api.StepCheck}, ok, "check")
		if w.source.Intn(10) == 0 {
			w.ofPath()
		}
	}
	for _, r := range w.m.Asked() {
		w.look()
		if w.source.Intn(3) == 0 { // ahead of what is asked, which is refused then
			w.step(api.Step{Kind: api.StepAdjust, Request: r}, ok, "forge", r.Kind, r.N, r.To, r.Gen)
		}
		w.step(api.Step{Kind: api.StepAdjust}, ok, "adjust")
	}
}

func (w *writer) look() {
	switch w.source.Intn(4) {
	case 0:
		answer := "asked"
		for _, r := range w.m.Asked() {
			answer += fmt.Sprintf(" %d:%d:%d", r.Kind, r.N, r.To)
		}
		w.note(answer, "asked")
	case 1:
		if e := scan.Accept(w.m.Disk().Image()); e != api.OK {
			w.t.Fatal(w.text(), e)
		}
		w.note("accepted", "accept")
	case 2:
		image, e := adjust.Image(w.m.FS().Volume())
		found, why := scan.Leaks(image)
		if e != api.OK || why != api.OK {
			w.t.Fatal(w.text(), e, why)
		}
		w.note(fmt.Sprintf("leaks %d %d %d", len(found.Blocks), len(found.Inodes), len(found.Links)), "leaks")
	case 3:
		n := []int{-1, 0, 1, 8, 32}[w.source.Intn(5)]
		if at, e := crash.Worst(w.m.Disk(), n); e != api.OK {
			w.t.Fatal(w.text(), at, e)
		}
		w.note("fine", "worst", n)
	}
}

func (w *writer) write(lines int) {
	for len(w.lines) < lines {
		switch r := w.source.Intn(100); {
		case r < 40:
			w.ofPath()
		case r < 60:
			w.ofFile()
		case r < 90:
			w.ofMachine()
		case r < 99:
			w.look()
		case w.source.Intn(5) == 0:
			w.begin()
		}
	}
}

// TestP25_1AsTheMachine: each line answers what its step tells of a machine that
// plays the same, and (P1) what the tree means.
func TestP25_1AsTheMachine(t *testing.T) {
	crashes := 0
	asked := map[string]int{} // by command: how often it was right
	for seed := range int64(150) {
		w := newWriter(t, seed)
		w.write(200)
		got := plays(t, w.text())
		if len(got) != len(w.want) {
			t.Fatal(seed, len(got), len(w.want))
		}
		for i := range got {
			if got[i] != w.want[i] {
				t.Fatalf("seed %d, line %d, %q: %q, want %q", seed, i+1, w.lines[i], got[i], w.want[i])
			}
			if !strings.HasPrefix(got[i], "error") {
				asked[strings.Split(w.lines[i], " ")[0]]++
			}
		}
		crashes += w.crashes
	}
	for _, f := range forms() {
		if asked[f.name] < 5 {
			t.Fatal(f.name, asked[f.name])
		}
	}
	if crashes < 100 {
		t.Fatal(crashes)
	}
}

// TestP25_2TwoRuns: they answer the same.
func TestP25_2TwoRuns(t *testing.T) {
	for seed := range int64(40) {
		w := newWriter(t, 1000+seed)
		w.write(300)
		if one, other := plays(t, w.text()), plays(t, w.text()); !slices.Equal(one, other) {
			t.Fatal(seed, one, other)
		}
		bad := w.text() + "\n\njump"
		_, one := Run(bad)
		_, other := Run(bad)
		if one != other || one != (error)(api.Fault{At: len(w.lines) + 2, Why: api.ErrCommand}) {
			t.Fatal(seed, one, other)
		}
	}
}

// TestP25_2Beginnings: a script's answers begin with those of each of its
// beginnings.
func TestP25_2Beginnings(t *testing.T) {
	for seed := range int64(8) {
		w := newWriter(t, 2000+seed)
		w.write(100)
		all := plays(t, w.text())
		for many := range len(w.lines) + 1 {
			for _, end := range []string{"", "\n", "\n\n"} {
				if got := plays(t, strings.Join(w.lines[:many], "\n")+end); !slices.Equal(got, all[:many]) {
					t.Fatal(seed, many, got)
				}
			}
		}
	}
}

// TestP25_2Together: what scripts told does not hang on others that are played
// at the same time.
func TestP25_2Together(t *testing.T) {
	type told struct{ got, want []string }
	answers := make(chan told)
	for seed := range int64(8) {
		w := newWriter(t, 3000+seed)
		w.write(200)
		go func() {
			got, _ := Run(w.text())
			answers <- told{got, w.want}
		}()
	}
	for range 8 {
		if a := <-answers; !slices.Equal(a.got, a.want) {
			t.Fatal(a)
		}
	}
}
