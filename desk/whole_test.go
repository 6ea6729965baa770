package desk

import (
	"slices"
	"strconv"
	"strings"
	"testing"
)

// Tests of P1 to P7 of the document, as far as a script shows them. (P1 over many
// scripts: TestP25_1AsTheMachine.)

// repeated is a line so many times.
func repeated(line string, times int) []string {
	return slices.Repeat([]string{line}, times)
}

// view is lines that tell all that users have at some paths.
func view(paths ...string) []string {
	lines := []string{"list /"}
	for _, path := range paths {
		lines = append(lines, "stat "+path, "list "+path, "open "+path, "read 0 0 9999", "close 0")
	}
	return lines
}

// last is the last answers of a script.
func last(t *testing.T, many int, lines ...string) []string {
	t.Helper()
	answers := plays(t, script(lines...))
	return answers[len(answers)-many:]
}

// TestP25_WholeExamples: those of the document that a script can tell.
func TestP25_WholeExamples(t *testing.T) {
	says(t, made, "made", "stat /", "dir 2 0", "list /", "list")                                                                                  // 1
	says(t, made, "made", "sync", "ok", "create /a", "fd 0", "worst 4096", "fine", "flush 9", "ok", "flush 0", "error 230", "worst 4096", "fine", // 2: the bit
		"done 0", "ok", "flush 0", "ok", "flush 0", "error 230", "worst 4096", "fine", "done 0", "ok", // the inode
		"flush 0", "ok", "flush 0", "error 230", "worst 4096", "fine", "done 0", "ok", // the name
		"flush 0", "error 230", "crash 0", "ok", "stat /a", "file 1 0", "leaks", "leaks 0 0 0")
	says(t, made, "made", "create /a", "fd 0", "write 0 0 x", "wrote 1", "unlink /a", "ok", "stat /a", "error 211", "read 0 0 9", "read 78", "leaks", "leaks 0 1 0", "close 0", "ok", "leaks", "leaks 0 0 0") // 3
	says(t, made, "made", "create /a", "fd 0", "fill 0 100 200 x", "wrote 200", "stat /a", "file 1 300", "sync", "ok", "crash 0", "ok", "open /a", "fd 0",
		"read 0 0 999", "read "+strings.Repeat("00", 100)+strings.Repeat("78", 200)) // 4
	says(t, "make 1 16 8", "made", "create /a", "fd 0", "write 0 0 x", "wrote 1", "fill 0 0 9999 y", "error 5", "read 0 0 9", "read 78", "stat /a", "file 1 1") // 5
	says(t, made, "made", "mkdir /a", "ok", "rename /a /a/b", "error 217")                                                                                      // 6
	says(t, made, "made", "snap 9", "ok", "forge 2 2 0 1", "error 1")                                                                                           // 8
	says(t, made, "made", "sync", "ok", "create /a", "fd 0", "flush 0", "ok", "fail 0", "ok", "flush 0", "ok", "done 0", "ok", "sync", "ok")                    // 9
}

// TestP25_WholeP2: behind a sync and any crash there is what was synced.
func TestP25_WholeP2(t *testing.T) {
	for seed := range int64(30) {
		w := newWriter(t, 4000+seed)
		w.write(80)
		lines := append(slices.Clone(w.lines), "sync")
		looks := view("/a", "/b", "/c", "/a/a", "/b/a", "/c/c")
		for i := range 16 {
			lines = append(lines, "close "+strconv.Itoa(i))
		}
		lines = append(lines, "sync")
		want := last(t, len(looks), append(slices.Clone(lines), looks...)...)
		for _, mask := range []string{"0", "1", "9999999999"} {
			got := last(t, len(looks), append(append(slices.Clone(lines), "crash "+mask), looks...)...)
			if !slices.Equal(got, want) {
				t.Fatal(seed, mask, got, want)
			}
		}
	}
}

// TestP25_WholeP3: whatever is forged, users have what they had.
func TestP25_WholeP3(t *testing.T) {
	granted := 0
	for seed := range int64(12) {
		w := newWriter(t, 5000+seed)
		w.write(60)
		lines := append(slices.Clone(w.lines), "mkdir /a", "mkdir /b", "create /c", "flush 0", "flush 1", "flush 1", "done 0", "flush 0", "crash 1")
		looks := view("/a", "/b", "/c", "/a/a", "/b/a", "/c/c")
		want := last(t, len(looks), append(slices.Clone(lines), looks...)...)
		lines = append(lines, "snap 0", "drop") // another number than it was, whatever that is
		begun := len(lines)
		for gen := range 12 {
			for kind := range 3 {
				for n := range 40 {
					lines = append(lines, "forge "+strconv.Itoa(kind+1)+" "+strconv.Itoa(n)+" 0 "+strconv.Itoa(gen))
				}
			}
		}
		answers := plays(t, script(append(slices.Clone(lines), looks...)...))
		got := answers[len(answers)-len(looks):]
		granted += strings.Count(strings.Join(answers[begun:len(lines)], " "), "ok")
		if statless(got, looks) != statless(want, looks) {
			t.Fatal(seed, got, want)
		}
	}
	if granted < 5 {
		t.Fatal(granted)
	}
}

// statless is answers without links, which adjusting lowers.
func statless(answers, lines []string) string {
	var out []string
	for i, answer := range answers {
		if words := strings.Split(answer, " "); strings.HasPrefix(lines[i], "stat") && len(words) == 3 {
			answer = words[0] + " " + words[2]
		}
		out = append(out, answer)
	}
	return strings.Join(out, "\n")
}

// TestP25_WholeP4: behind a crash, with as many steps as the checker has at most,
// nothing leaks, and the snapshot is gone.
func TestP25_WholeP4(t *testing.T) {
	leaked := 0
	for seed := range int64(40) {
		w := newWriter(t, 6000+seed)
		w.write(60)
		g := w.m.FS().Geom()
		lines := append(slices.Clone(w.lines), "create /a", "mkdir /b", "flush 2", "flush 1", "done 1", "flush 3", "flush 0", "crash "+strconv.Itoa(int(seed)), "leaks", "snap 9999")
		found := len(lines) - 2
		lines = append(lines, repeated("check", 3*g.Groups*g.Inodes+g.Groups)...)
		lines = append(lines, "drop")
		lines = append(lines, repeated("adjust", g.Groups*(g.Inodes+g.Blocks))...)
		answers := plays(t, script(append(lines, "leaks", "accept")...))
		if got := answers[len(lines)-1:]; !slices.Equal(got[1:], []string{"leaks 0 0 0", "accepted"}) {
			t.Fatal(seed, got)
		}
		if drop := slices.Index(lines, "snap 9999") + 1 + 3*g.Groups*g.Inodes + g.Groups; answers[drop] != "error 3" {
			t.Fatal(seed, "the snapshot is not gone:", lines[drop], answers[drop])
		}
		if answers[found] != "leaks 0 0 0" {
			leaked++
		}
	}
	if leaked < 5 {
		t.Fatal(leaked)
	}
}

// noise is lines that snapshots and checkers are made of, and looks.
func noise(i int) []string {
	switch i % 5 {
	case 0:
		return []string{"snap " + strconv.Itoa(i%40)}
	case 2:
		return repeated("check", 1+i%30)
	case 4:
		return []string{"asked", "accept", "leaks", "worst 3"}
	}
	if i%11 == 0 {
		return []string{"drop"}
	}
	return nil
}

// TestP25_WholeP6: snapshots and checkers change nothing of what other lines
// answer.
func TestP25_WholeP6(t *testing.T) {
	for seed := range int64(30) {
		w := newWriter(t, 7000+seed)
		w.write(150)
		var quiet, loud []string
		var places []int // of the quiet lines among the loud
		begun := false
		for i, line := range w.lines {
			if slices.Contains([]string{"snap", "check", "drop", "asked", "adjust", "forge"}, strings.Split(line, " ")[0]) {
				continue
			}
			if begun {
				loud = append(loud, noise(i)...)
			}
			places = append(places, len(loud))
			quiet, loud = append(quiet, line), append(loud, line)
			begun = begun || w.want[i] == "made"
		}
		want, got := plays(t, script(quiet...)), plays(t, script(loud...))
		for i, place := range places {
			if got[place] != want[i] {
				t.Fatalf("seed %d, %q: %q, want %q", seed, quiet[i], got[place], want[i])
			}
		}
	}
}

// TestP25_WholeP7: while something is not on the disk, there is a block of which
// something may be written; then all of it is there.
func TestP25_WholeP7(t *testing.T) {
	for seed := range int64(20) {
		w := newWriter(t, 8000+seed)
		w.write(100)
		d := newDesk()
		for _, line := range w.lines {
			d.play(line)
		}
		for i := range 16 {
			d.play("close " + strconv.Itoa(i))
		}
		answers := func() []string {
			var out []string
			for _, line := range view("/a", "/b", "/c", "/a/a", "/b/b", "/c/a") {
				answer, _ := d.play(line)
				out = append(out, answer)
			}
			return out
		}
		want := answers()
		for steps := 0; ; steps++ {
			sent, _ := d.play("flush " + strconv.Itoa(steps))
			done, _ := d.play("done " + strconv.Itoa(steps))
			if sent == "error 230" && done == "error 230" {
				break
			}
			if steps > 3000 {
				t.Fatal(seed, "it does not end")
			}
		}
		answered(t, d, "crash 0", "ok")
		if got := answers(); !slices.Equal(got, want) {
			t.Fatal(seed, got, want)
		}
	}
}
