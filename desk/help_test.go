package desk

import (
	"errors"
	"slices"
	"strings"
	"testing"

	"bollard/api"
)

const made = "make 1 32 8"

// allErrors are numbers of api's, of all layers.
func allErrors() []api.Errno {
	out := []api.Errno{api.OK, api.ErrArg, api.ErrNil, api.ErrState, api.ErrIO, api.ErrSpace, api.ErrForm, api.ErrName}
	for layer := 1; layer <= 26; layer++ {
		for i := range 10 {
			out = append(out, api.Errno(10*layer+i))
		}
	}
	return out
}

func script(lines ...string) string {
	return strings.Join(lines, "\n")
}

// plays is the answers of a script that has no fault.
func plays(t *testing.T, text string) []string {
	t.Helper()
	answers, err := Run(text)
	if err != nil {
		t.Fatalf("%q: %v", text, err)
	}
	return answers
}

// says plays pairs of a line and its answer.
func says(t *testing.T, pairs ...string) {
	t.Helper()
	var lines, want []string
	for pair := range slices.Chunk(pairs, 2) {
		lines, want = append(lines, pair[0]), append(want, pair[1])
	}
	got := plays(t, script(lines...))
	if len(got) != len(want) {
		t.Fatal(got)
	}
	for i := range want {
		if got[i] != want[i] {
			t.Fatalf("line %d, %q: %q, want %q", i+1, lines[i], got[i], want[i])
		}
	}
}

// faulty fails unless a script has no answers but this fault: a value, in which
// no other number is found.
func faulty(t *testing.T, text string, at int, why api.Errno) {
	t.Helper()
	answers, err := Run(text)
	if len(answers) != 0 || err != (error)(api.Fault{At: at, Why: why}) {
		t.Fatalf("%q: %q, %v; want %v at %d", text, answers, err, why, at)
	}
	var fault api.Fault
	if !errors.As(err, &fault) || fault.At != at {
		t.Fatalf("%q: no place in %v", text, err)
	}
	for _, e := range allErrors() {
		if errors.Is(err, e) != (e == why) {
			t.Fatalf("%q: %v is found in %v", text, e, err)
		}
	}
}

// form is a command with words that it wants: n any number, m one from 0 on, f
// one from 0 to 9999, w any word.
type form struct{ name, wants string }

func forms() []form {
	return []form{
		{"make", "nnn"}, {"mkdir", "w"}, {"unlink", "w"}, {"rmdir", "w"}, {"create", "w"}, {"open", "w"},
		{"close", "n"}, {"sync", ""}, {"fsync", "n"}, {"read", "nnn"}, {"write", "nnw"}, {"fill", "nnfw"}, {"cut", "nn"},
		{"rename", "ww"}, {"link", "ww"}, {"stat", "w"}, {"list", "w"}, {"flush", "n"}, {"done", "n"}, {"fail", "n"},
		{"snap", "n"}, {"check", ""}, {"adjust", ""}, {"drop", ""}, {"forge", "nnnn"}, {"crash", "m"},
		{"asked", ""}, {"accept", ""}, {"leaks", ""}, {"worst", "n"},
	}
}

// words is the command's line, right in all.
func (f form) words() []string {
	out := []string{f.name}
	for _, want := range f.wants {
		if want == 'w' {
			out = append(out, "/a")
		} else {
			out = append(out, "1")
		}
	}
	return out
}

// with is the line with another word at a place.
func (f form) with(place int, word string) string {
	words := f.words()
	words[place] = word
	return strings.Join(words, " ")
}

func (f form) line() string {
	return strings.Join(f.words(), " ")
}
