package desk

import (
	"math/rand"
	"slices"
	"strconv"
	"strings"
	"testing"

	"bollard/api"
)

// TestP25_1Example is the chapter's.
func TestP25_1Example(t *testing.T) {
	says(t, "make 1 32 8", "made", "create /a", "fd 0", "write 0 0 hey", "wrote 3", "read 0 0 9", "read 686579")
}

// TestP25_1Make: a make with an error leaves what there was, another one has a
// new volume.
func TestP25_1Make(t *testing.T) {
	says(t, "make 1 32 8", "made", "make 8 256 64", "made", "make 1 8 4", "made")
	for _, line := range []string{
		"make 0 32 8", "make 9 32 8", "make -1 32 8", "make 1 7 4", "make 1 257 8", "make 1 32 0", "make 1 32 6", "make 1 256 68", "make 1 12 40",
		"make 9999999999 9999999999 9999999999", "make -9999999999 32 8", "make 0 0 0",
	} {
		says(t, line, "error 170", made, "made")
		says(t, made, "made", "create /a", "fd 0", line, "error 170", "stat /a", "file 1 0", "read 0 0 1", "read -", "snap 9", "ok", line, "error 170", "snap 9", "error 3")
	}
	says(t, made, "made", "mkdir /a", "ok", "snap 9", "ok", "flush 0", "ok", "make 2 16 8", "made", "list /", "list", "drop", "error 3", "done 0", "error 230", "make 2 16 9", "error 170", "list /", "list")
}

// TestP25_1UsersCalls: each call's answers, and its errors.
func TestP25_1UsersCalls(t *testing.T) {
	says(t, made, "made",
		"mkdir /d", "ok", "mkdir /d", "error 212", "mkdir d", "error 7", "mkdir /", "error 212", "mkdir /x/y", "error 211",
		"create /d/f", "fd 0", "create /d/f", "error 212", "open /d/f", "fd 1", "open /d", "error 213", "open /no", "error 211",
		"stat /", "dir 3 0", "stat /d", "dir 2 0", "stat /d/f", "file 1 0", "stat /no", "error 211",
		"write 0 1 xyz", "wrote 3", "write 9 0 x", "error 210", "write 0 -1 x", "error 1", "write 0 532992 x", "error 150",
		"read 1 0 9", "read 0078797a", "read 1 2 1", "read 79", "read 1 4 9", "read -", "read 1 0 0", "read -", "read 1 99 9", "read -", "read 1 -1 1", "error 1", "read 1 1 -1", "error 1",
		"read 2 0 1", "error 210", "read 1 0 9999999999", "read 0078797a", "read 1 9999999999 9999999999", "read -",
		"stat /d/f", "file 1 4", "cut 1 2", "ok", "read 0 0 9", "read 0078", "cut 0 3", "ok", "read 0 0 9", "read 007800", "cut 0 -1", "error 1", "cut 0 532993", "error 150", "cut 5 0", "error 210",
		"link /d/f /g", "ok", "link /d/f /g", "error 212", "link /d /h", "error 213", "stat /g", "file 2 3",
		"list /", "list d g", "list /d", "list f", "list /g", "error 214", "list /no", "error 211",
		"rename /g /d/a", "ok", "list /", "list d", "list /d", "list a f", "rename /d /d/e", "error 217", "rename /no /x", "error 211",
		"rmdir /d", "error 215", "rmdir /d/a", "error 214", "rmdir /", "error 1", "unlink /d", "error 213", "unlink /d/a", "ok", "unlink /d/f", "ok", "unlink /d/f", "error 211",
		"read 0 0 9", "read 007800", "fsync 0", "ok", "fsync 7", "error 210", "sync", "ok",
		"close 0", "ok", "close 0", "error 210", "close 1", "ok", "close -1", "error 210", "close 16", "error 210",
		"rmdir /d", "ok", "list /", "list", "leaks", "leaks 0 0 0")
}

// TestP25_1ManyFiles: all descriptors, and names that are told rising.
func TestP25_1ManyFiles(t *testing.T) {
	var pairs, names []string
	for i := range 16 {
		name := strconv.Itoa(15 - i)
		names = append(names, name)
		pairs = append(pairs, "create /"+name, "fd "+strconv.Itoa(i))
	}
	slices.Sort(names)
	says(t, append([]string{"make 1 64 32", "made"}, append(pairs, "create /16", "error 218", "open /1", "error 218", "list /", "list "+strings.Join(names, " "), "close 7", "ok", "open /1", "fd 7")...)...)
}

// TestP25_1Bytes: all bytes that a word can have, as two small digits each.
func TestP25_1Bytes(t *testing.T) {
	var word, digits strings.Builder
	for x := range 256 {
		if x != ' ' && x != '\n' {
			word.WriteByte(byte(x))
			digits.WriteString(strconv.FormatInt(int64(x)+256, 16)[1:])
		}
	}
	says(t, made, "made", "create /a", "fd 0", "write 0 0 "+word.String(), "wrote 254", "read 0 0 300", "read "+digits.String(), "read 0 253 1", "read ff")
}

// TestP25_1Fill: the word's first byte, 0 to 9999 times.
func TestP25_1Fill(t *testing.T) {
	says(t, "make 1 256 8", "made", "create /a", "fd 0",
		"fill 0 9 0 x", "wrote 0", "stat /a", "file 1 0",
		"fill 0 2 3 xy", "wrote 3", "read 0 0 9", "read 0000787878",
		"fill 0 0 1 \xff\x01", "wrote 1", "read 0 0 9", "read ff00787878",
		"fill 0 0 9999 9", "wrote 9999", "stat /a", "file 1 9999", "read 0 0 9999", "read "+strings.Repeat("39", 9999),
		"fill 0 523000 9999 x", "error 150", "fill 0 -1 1 x", "error 1", "fill 1 0 9999 x", "error 210", "fill 0 -1 0 x", "error 1",
		"fill 0 532992 0 x", "wrote 0", "fill 0 532993 0 x", "error 150")
	says(t, "make 1 16 8", "made", "create /a", "fd 0", "fill 0 0 9999 x", "error 5", "stat /a", "file 1 0", "leaks", "leaks 0 0 0")
	for _, n := range []string{"10000", "-1", "-9999", "9999999999", "-9999999999", "0000", "09999"} {
		faulty(t, script("make 1 256 8", "create /a", "fill 0 0 "+n+" x"), 3, api.ErrCommand)
		faulty(t, script("make 1 256 8", "fill 9 0 "+n+" x"), 2, api.ErrCommand)
	}
}

// TestP25_1Writes: blocks that are sent, done, fail; the Nth goes round, below 0
// it is the first.
func TestP25_1Writes(t *testing.T) {
	says(t, made, "made", "done 0", "error 230", "fail 0", "error 230",
		"flush 0", "ok", "flush 0", "error 230", "done 0", "ok", "done 0", "error 230", // the mount's own patch
		"create /a", "fd 0", "flush 5", "ok", "fail 7", "ok", "flush -5", "ok", "done -1", "ok",
		"flush 0", "ok", "done 9999999999", "ok", "crash 0", "ok", "stat /a", "error 211", // the name is not there yet
		"leaks", "leaks 0 1 0")
	says(t, made, "made", "create /a", "fd 0", "sync", "ok", "crash 0", "ok", "stat /a", "file 1 0", "read 0 0 1", "error 210")
}

// TestP25_1Crash: a mask has the writes of the queue that were done; what is
// beyond the queue plays no part.
func TestP25_1Crash(t *testing.T) {
	begin := []string{made, "made", "flush 0", "ok", "done 0", "ok", "create /a", "fd 0", "sync", "ok", "write 0 0 x", "wrote 1", "sync", "ok", "create /b", "fd 1", "flush 0", "ok", "fill 0 0 1 y", "wrote 1"}
	for mask, leaked := range map[string]string{
		"0": "leaks 0 0 0", "1": "leaks 0 1 0", "2": "leaks 0 0 0", "3": "leaks 0 1 0", "9999999998": "leaks 0 0 0", "9999999999": "leaks 0 1 0", "4294967296": "leaks 0 0 0", "4294967297": "leaks 0 1 0",
	} {
		says(t, append(slices.Clone(begin), "crash "+mask, "ok", "leaks", leaked, "accept", "accepted", "list /", "list a", "close 0", "error 210", "done 0", "error 230")...)
	}
	for _, mask := range []string{"-1", "-9999999999", "-0", "10000000000"} {
		faulty(t, script(made, "crash "+mask), 2, api.ErrCommand)
	}
}

// TestP25_1Checker: a leak is found, asked for, and freed.
func TestP25_1Checker(t *testing.T) {
	pairs := []string{made, "made", "check", "error 3", "drop", "error 3", "adjust", "error 230", "asked", "asked",
		"create /a", "fd 0", "flush 1", "ok", "crash 1", "ok", "asked", "asked", "leaks", "leaks 0 1 0",
		"snap 9", "ok", "snap 9", "error 3"}
	for range 12 {
		pairs = append(pairs, "check", "ok")
	}
	pairs = append(pairs, "asked", "asked 2:3:0")
	for range 4 {
		pairs = append(pairs, "check", "ok")
	}
	says(t, append(pairs, "check", "error 3", "asked", "asked 2:3:0", "adjust", "ok", "asked", "asked", "leaks", "leaks 0 0 0", "adjust", "error 230", "sync", "ok", "accept", "accepted")...)
}

// TestP25_1Snap: room below 0 is none; a snapshot that breaks is gone; drop
// leaves nothing asked.
func TestP25_1Snap(t *testing.T) {
	for _, room := range []string{"0", "-1", "-9999999999"} {
		says(t, made, "made", "snap "+room, "ok", "check", "ok", "mkdir /a", "ok", "check", "error 3", "check", "error 3", "drop", "error 3")
	}
	says(t, made, "made", "snap 9999999999", "ok", "mkdir /a", "ok", "check", "ok", "drop", "ok", "check", "error 3", "snap 1", "ok")
	pairs := []string{made, "made", "create /a", "fd 0", "flush 1", "ok", "crash 1", "ok", "snap 32", "ok"}
	for range 12 {
		pairs = append(pairs, "check", "ok")
	}
	says(t, append(pairs, "asked", "asked 2:3:0", "drop", "ok", "asked", "asked", "adjust", "error 230")...)
}

// TestP25_1Forge: any request may be made; the zero one is the first that was
// asked.
func TestP25_1Forge(t *testing.T) {
	says(t, made, "made", "forge 0 0 0 0", "error 230", "forge 2 3 0 0", "error 110", "forge 2 3 0 1", "error 200", "forge 2 2 0 0", "error 1", "forge 1 4 0 0", "error 201",
		"forge 9 9 9 0", "error 1", "forge -1 -1 -1 0", "error 1", "forge 3 2 1 0", "error 1", "forge 9999999999 9999999999 9999999999 -9999999999", "error 200",
		"create /a", "fd 0", "unlink /a", "ok", "leaks", "leaks 0 1 0", "forge 2 3 0 0", "error 201", "flush 1", "ok", "done 0", "ok", "crash 0", "ok")
	says(t, made, "made", "create /a", "fd 0", "flush 1", "ok", "crash 1", "ok", "leaks", "leaks 0 1 0", "forge 2 3 77 0", "ok", "leaks", "leaks 0 0 0", "forge 2 3 77 0", "error 110")
	pairs := []string{made, "made", "create /a", "fd 0", "flush 1", "ok", "crash 1", "ok", "snap 32", "ok"}
	for range 16 {
		pairs = append(pairs, "check", "ok")
	}
	says(t, append(pairs, "asked", "asked 2:3:0", "forge 0 0 0 0", "ok", "asked", "asked")...)
}

// TestP25_1AskedOfEachKind: blocks, inodes, and links with how many there are.
func TestP25_1AskedOfEachKind(t *testing.T) {
	d := begun(t, "create /a", "write 0 0 x", "sync")
	found := map[string]int{}
	for range 400 { // links, inodes and blocks that leak, by crashes at many places
		for _, line := range []string{"link /a /b", "mkdir /d", "flush 1", "flush 1", "flush 0", "done 1", "flush 2", "crash 5", "unlink /b", "rmdir /d", "snap 64"} {
			d.play(line)
		}
		for range 40 {
			d.play("check")
		}
		asked, _ := d.play("asked")
		words := strings.Split(asked, " ")
		for i, r := range d.machine.Asked() {
			want := strconv.Itoa(r.Kind) + ":" + strconv.Itoa(r.N) + ":" + strconv.Itoa(r.To)
			if words[1+i] != want {
				t.Fatal(asked, want)
			}
			found[words[1+i][:1]]++
			d.play("adjust")
		}
		if asked, _ := d.play("asked"); asked != "asked" {
			t.Fatal(asked)
		}
	}
	if found["2"] == 0 || found["1"]+found["3"] == 0 {
		t.Fatal(found)
	}
}

// begun is a desk with a machine, where some lines were played.
func begun(t *testing.T, lines ...string) *desk {
	t.Helper()
	d := newDesk()
	for _, line := range append([]string{made}, lines...) {
		answer, err := d.play(line)
		if err != nil || strings.HasPrefix(answer, "error") {
			t.Fatal(line, answer, err)
		}
	}
	return d
}

func answered(t *testing.T, d *desk, pairs ...string) {
	t.Helper()
	for pair := range slices.Chunk(pairs, 2) {
		if answer, err := d.play(pair[0]); answer != pair[1] || err != nil {
			t.Fatalf("%q: %q, %v; want %q", pair[0], answer, err, pair[1])
		}
	}
}

// spoilt puts a write of noughts into the disk's queue: no script can, since a
// crash leaves what is accepted.
func spoilt(t *testing.T, d *desk, block int) int {
	t.Helper()
	id, e := d.machine.Disk().Write(block, make([]byte, api.Size))
	if e != api.OK {
		t.Fatal(e)
	}
	return id
}

// TestP25_1Worst: fine, or the first image that is refused, among so many.
func TestP25_1Worst(t *testing.T) {
	for _, n := range append([]string{"2", "3", "8", "4096", "4097"}, someNumbers...) {
		says(t, made, "made", "worst "+n, "fine", "create /a", "fd 0", "flush 0", "ok", "flush 0", "ok", "worst "+n, "fine", "stat /a", "file 1 0")
	}
	d := begun(t, "create /a", "sync")
	spoilt(t, d, 9)
	spoilt(t, d, 2)
	answered(t, d, "worst 0", "fine", "worst -1", "fine", "worst 2", "fine", "worst 3", "bad 2 184", "worst 9999999999", "bad 2 184", "accept", "accepted", "worst 4", "bad 2 184")
}

// TestP25_1Refused: what scan refuses: accept is of the disk, leaks of the image
// now; a mount that is refused is told, and then all steps but a crash are.
func TestP25_1Refused(t *testing.T) {
	d := begun(t)
	if e := d.machine.Disk().Complete(spoilt(t, d, 1), true); e != api.OK {
		t.Fatal(e)
	}
	answered(t, d, "accept", "error 31", "worst 1", "bad 0 31", "leaks", "error 31")
	d = begun(t, "sync")
	spoilt(t, d, 0)
	answered(t, d, "crash 1", "error 31", "sync", "error 3", "leaks", "error 2", "accept", "error 31", "asked", "asked", "worst 1", "bad 0 31", "crash 0", "error 31", "make 0 0 0", "error 170", "list /", "error 3", made, "made", "list /", "list")
	d = begun(t, "sync")
	d.machine.Disk().Fail(5, 1)
	answered(t, d, "leaks", "error 4", "leaks", "leaks 0 0 0")
}

// TestP25_1Now: accept looks at the disk, leaks at what there is with all
// patches.
func TestP25_1Now(t *testing.T) {
	says(t, made, "made", "create /a", "fd 0", "write 0 0 x", "wrote 1", "unlink /a", "ok", "leaks", "leaks 0 1 0", "accept", "accepted", "close 0", "ok", "leaks", "leaks 0 0 0")
	d := begun(t, "create /a")
	was := d.machine.Disk().Image()
	answered(t, d, "accept", "accepted", "leaks", "leaks 0 0 0", "worst 9", "fine", "asked", "asked")
	for b, bytes := range d.machine.Disk().Image() {
		if !slices.Equal(bytes, was[b]) {
			t.Fatal("looking has changed block", b)
		}
	}
}

// TestP25_1OwnMemory: the answers are nobody else's.
func TestP25_1OwnMemory(t *testing.T) {
	text := script(made, "create /a", "list /")
	one := plays(t, text)
	other := plays(t, text)
	one = one[:cap(one)]
	for i := range one {
		one[i] = "spoilt"
	}
	if want := []string{"made", "fd 0", "list a"}; !slices.Equal(other, want) || !slices.Equal(plays(t, text), want) {
		t.Fatal(other)
	}
}

// TestP25_1AnyBytes: whatever a script is, it is played or has a fault of one of
// its lines.
func TestP25_1AnyBytes(t *testing.T) {
	source := rand.New(rand.NewSource(5))
	pieces := []string{"\n", "\n", " ", " ", "make 1 16 8\n", "make", "1", "0", "-1", "/a", "/", "99", "9999999999", "x", "\x00", "\xff", "", "-"}
	for _, f := range forms() {
		pieces = append(pieces, f.name, f.line()+"\n", f.name+" ", f.line())
	}
	told := map[api.Errno]int{}
	for range 20000 {
		var text strings.Builder
		if source.Intn(2) == 0 {
			text.WriteString(made + "\n")
		}
		for range source.Intn(12) {
			text.WriteString(pieces[source.Intn(len(pieces))])
		}
		answers, err := Run(text.String())
		lines := strings.Split(text.String(), "\n")
		if err == nil {
			told[api.OK]++
			if len(answers) != filled(lines) {
				t.Fatalf("%q: %q", text.String(), answers)
			}
			continue
		}
		fault, is := err.(api.Fault)
		if !is || len(answers) != 0 || fault.At < 1 || fault.At > len(lines) || lines[fault.At-1] == "" {
			t.Fatalf("%q: %q, %v", text.String(), answers, err)
		}
		told[fault.Why]++
		ahead := script(lines[:fault.At-1]...)
		if _, err := Run(ahead); err != nil {
			t.Fatalf("%q: a line ahead has a fault: %v", text.String(), err)
		}
	}
	if told[api.OK] < 100 || told[api.ErrCommand] < 100 || told[api.ErrState] < 100 || len(told) != 3 {
		t.Fatal(told)
	}
}

// filled is how many lines have bytes.
func filled(lines []string) int {
	n := 0
	for _, line := range lines {
		if line != "" {
			n++
		}
	}
	return n
}
