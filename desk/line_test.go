package desk

import (
	"slices"
	"strings"
	"testing"

	"bollard/api"
)

func TestP25_1NoLines(t *testing.T) {
	for _, text := range []string{"", "\n", "\n\n\n", strings.Repeat("\n", 1<<16)} {
		if got := plays(t, text); len(got) != 0 {
			t.Fatal(got)
		}
	}
}

// TestP25_1Lines: a line without bytes says nothing, but counts; the last one may
// have its end.
func TestP25_1Lines(t *testing.T) {
	want := []string{"made", "ok"}
	for _, text := range []string{"make 1 32 8\nsync", "make 1 32 8\nsync\n", "make 1 32 8\nsync\n\n\n", "\nmake 1 32 8\n\n\nsync", "\n\nmake 1 32 8\nsync\n"} {
		if got := plays(t, text); !slices.Equal(got, want) {
			t.Fatalf("%q: %q", text, got)
		}
	}
	faulty(t, "jump", 1, api.ErrCommand)
	faulty(t, "jump\n", 1, api.ErrCommand)
	faulty(t, "\njump", 2, api.ErrCommand)
	faulty(t, "\n\n\n"+made+"\n\nsync\n\njump\n", 8, api.ErrCommand)
	faulty(t, strings.Repeat("\n", 1<<16)+"jump", 1<<16+1, api.ErrCommand)
}

// TestP25_1Blanks: words are parted by single blanks, and by nothing else.
func TestP25_1Blanks(t *testing.T) {
	for _, line := range []string{
		" ", "  ", " sync", "sync ", "  sync", "sync  ", "read  0 0 9", "read 0  0 9", "read 0 0  9", "read 0 0 9 ", " read 0 0 9",
		"write 0 0 ", "write 0  x", "write 0 0  x", "fill 0 0 9 ", "rename /a ", "rename  /a", "rename /a  /b", "mkdir ", "mkdir  /a", "close ",
		"sync\t", "\tsync", "sync\r", "read\t0 0 9", "read 0\t0 9", "sync\v", "sync\x00", "sync\u00a0", "\u3000sync", "close\t0",
	} {
		faulty(t, script(made, line), 2, api.ErrCommand)
		faulty(t, script(made, "", line, "sync"), 3, api.ErrCommand)
		faulty(t, line, 1, api.ErrCommand)
	}
	faulty(t, made+"\r\nsync\r\n", 1, api.ErrCommand)
	says(t, made, "made", "create /a", "fd 0", "write 0 0 \t\r\v\x00\xff\u00a0", "wrote 7", "read 0 0 9", "read 090d0b00ffc2a0") // all other bytes are a word's
}

// TestP25_1NoCommand: names of commands are just these.
func TestP25_1NoCommand(t *testing.T) {
	for _, name := range []string{"jump", "MAKE", "Sync", "syn", "syncs", "make1", "-", "0", "1", "error", "ok", "#", "\x00", "\xff", "é", "do", "call", strings.Repeat("sync", 1<<16)} {
		for _, line := range []string{name, name + " 1", name + " 1 32 8", name + " /a /b"} {
			faulty(t, line, 1, api.ErrCommand) // ahead of make, too
			faulty(t, script(made, line), 2, api.ErrCommand)
		}
	}
}

// TestP25_1AllCommands: there are these, with so many words; they are asked for
// ahead of the machine.
func TestP25_1AllCommands(t *testing.T) {
	if len(commands()) != len(forms()) {
		t.Fatal(len(commands()), len(forms()))
	}
	for _, f := range forms() {
		plays(t, script(made, f.line()))
		words := f.words()
		for some := 1; some < len(words); some++ {
			few := strings.Join(words[:some], " ")
			faulty(t, script(made, few), 2, api.ErrCommand)
			faulty(t, few, 1, api.ErrCommand)
		}
		for _, more := range []string{" 1", " /a", " 1 2", " 1 2 3 4 5 6 7 8", " " + strings.Repeat("1 ", 1<<12) + "1", strings.Repeat(" ", 1<<16)} {
			faulty(t, script(made, f.line()+more), 2, api.ErrCommand)
			faulty(t, f.line()+more, 1, api.ErrCommand)
		}
	}
}

// TestP25_1NoBytes: a word without bytes is none, wherever it stands.
func TestP25_1NoBytes(t *testing.T) {
	for _, f := range forms() {
		for place := range f.words() {
			line := f.with(place, "")
			if line == "" { // that is a line without bytes
				continue
			}
			faulty(t, script(made, line), 2, api.ErrCommand)
			faulty(t, line, 1, api.ErrCommand)
		}
	}
}

var (
	noNumbers = []string{
		"01", "00", "000", "-0", "-00", "-01", "+1", "+0", "+", "-", "--1", "+-1", "1-", "1.", "1.0", "1e3", "0x1", "1_0", "a", "1a", "a1", "/a",
		"10000000000", "99999999999", "-10000000000", "12345678901", "01234567890", "0000000000", "-0000000001", "9223372036854775807", "-9223372036854775808",
		"9223372036854775808", "18446744073709551616", "\u0661", "\uff11", "1\x00", "\xff", "inf", "nan", "\t1", "1\t", "1\r",
	}
	someNumbers = []string{"0", "1", "-1", "9", "10", "-10", "9999", "10000", "2147483647", "2147483648", "-2147483648", "4294967296", "9999999999", "-9999999999", "1000000000", "-1000000000"}
)

// TestP25_1Numbers: each number's place of each command, with words that are
// none, and with such of at most ten digits.
func TestP25_1Numbers(t *testing.T) {
	long := strings.Repeat("9", 1<<20)
	for _, f := range forms() {
		for i, want := range f.wants {
			if want == 'w' {
				continue
			}
			for _, word := range append([]string{long, "-" + long}, noNumbers...) {
				faulty(t, script(made, f.with(1+i, word)), 2, api.ErrCommand)
				faulty(t, f.with(1+i, word), 1, api.ErrCommand)
			}
			for _, word := range someNumbers {
				text := script(made, f.with(1+i, word))
				below := strings.HasPrefix(word, "-")
				if below && (want == 'm' || want == 'f') || want == 'f' && len(word) > 4 {
					faulty(t, text, 2, api.ErrCommand)
				} else if got := plays(t, text); len(got) != 2 {
					t.Fatal(text, got)
				}
			}
		}
	}
}

// TestP25_1AheadOfMake: a command that is right, and comes ahead of a make that
// told made.
func TestP25_1AheadOfMake(t *testing.T) {
	for _, f := range forms() {
		if f.name == "make" {
			continue
		}
		faulty(t, f.line(), 1, api.ErrState)
		faulty(t, script("", f.line(), made), 2, api.ErrState)
		faulty(t, script("make 0 32 8", f.line()), 2, api.ErrState)
		faulty(t, script("make 0 32 8", "make 9 32 8", "", "make 1 4 8", f.line(), made), 5, api.ErrState)
		if got := plays(t, script("make 0 32 8", made, f.line())); len(got) != 3 {
			t.Fatal(got)
		}
	}
	faulty(t, "sync 1", 1, api.ErrCommand) // which is named first
	faulty(t, "close 01", 1, api.ErrCommand)
	faulty(t, "crash -1", 1, api.ErrCommand)
	faulty(t, "fill 0 0 10000 x", 1, api.ErrCommand)
	faulty(t, "make 1 32", 1, api.ErrCommand)
}

// TestP25_1FirstFault: of several lines' faults the first one's, whatever they
// are.
func TestP25_1FirstFault(t *testing.T) {
	faulty(t, script("sync", "jump"), 1, api.ErrState)
	faulty(t, script("jump", "sync"), 1, api.ErrCommand)
	faulty(t, script(made, "sync", "jump", "close 01", " "), 3, api.ErrCommand)
	faulty(t, script("make 0 0 0", "", "sync", "jump", made), 3, api.ErrState)
	faulty(t, script("make 0 0 0", "", "jump", "sync", made), 3, api.ErrCommand)
	faulty(t, script(made, "make 9 9 9", "sync", "make 1 32 8 1", "sync x"), 4, api.ErrCommand)
}
