package desk

import (
	"strconv"
	"strings"

	"bollard/api"
)

const (
	blank      = " "
	minus      = "-"
	mostWords  = 5  // of a line, its command's name included
	mostDigits = 10 // of a number
	mostTimes  = 9999
)

// want is what a command wants a word to be.
type want int

const (
	word   want = iota // any bytes
	number             // a number
	mask               // one from 0 on
	times              // one from 0 to mostTimes
)

// arg is a word as its command wants it: a text or a number.
type arg struct {
	text   string
	number int
}

// parse is a line's command, and its further words.
func (d *desk) parse(line string) (command, []arg, error) {
	words := strings.SplitN(line, blank, mostWords+1) // a line may be long, and no command wants more
	c, known := d.commands[words[0]]
	if !known {
		return command{}, nil, api.Fault{Why: api.ErrCommand}
	}
	args, ok := argsOf(words[1:], c.wants)
	if !ok {
		return command{}, nil, api.Fault{Why: api.ErrCommand}
	}
	return c, args, nil
}

// argsOf is words as they are wanted, if they are so.
func argsOf(words []string, wants []want) ([]arg, bool) {
	if len(words) != len(wants) {
		return nil, false
	}
	args := make([]arg, len(words))
	for i, text := range words {
		a, ok := wants[i].read(text)
		if !ok {
			return nil, false
		}
		args[i] = a
	}
	return args, true
}

func (w want) read(text string) (arg, bool) {
	if w == word {
		return arg{text: text}, text != ""
	}
	n, ok := numberOf(text)
	return arg{number: n}, ok && w.allows(n)
}

func (w want) allows(n int) bool {
	switch w {
	case mask:
		return n >= 0
	case times:
		return n >= 0 && n <= mostTimes
	}
	return true
}

// numberOf is a text's number. Of all texts that strconv reads only the one that
// it would write is a number here.
func numberOf(text string) (int, bool) {
	if len(strings.TrimPrefix(text, minus)) > mostDigits {
		return 0, false
	}
	n, err := strconv.Atoi(text)
	return n, err == nil && strconv.Itoa(n) == text
}
