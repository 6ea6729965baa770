package layout

import (
	"bollard/api"
	"bollard/word"
)

// Bytes below and above these are no letters of a name.
const (
	firstLetter = 33
	lastLetter  = 126
)

// raw is an entry's bytes: a value, held against others as a whole.
type raw [api.EntryLen]byte

// EncodeEntry is an entry's bytes.
func EncodeEntry(e api.Entry) ([]byte, api.Errno) {
	if !entryMay(e) {
		return nil, api.ErrArg
	}
	written := writeEntry(e)
	return written[:], api.OK
}

// DecodeEntry is the entry of which these are the bytes.
func DecodeEntry(b []byte) (api.Entry, api.Errno) {
	if len(b) != api.EntryLen {
		return api.Entry{}, api.ErrForm
	}
	given := raw(b)
	e := readEntry(given)
	if !entryMay(e) || writeEntry(e) != given {
		return api.Entry{}, api.ErrForm
	}
	return e, api.OK
}

// writeEntry is asked only of an entry that may be.
func writeEntry(e api.Entry) raw {
	p := newPage(api.EntryLen)
	p.number(inoWide, e.Ino)
	p.number(byteWide, len(e.Name))
	p.text(e.Name)
	return raw(p.bytes)
}

// readEntry has no name where the length is more than there is room for: the
// reader gives up, and the bytes are not those of an entry without a name.
func readEntry(given raw) api.Entry {
	r := word.Over(given[:])
	ino := r.Take(inoWide)
	length := r.Take(byteWide)
	return api.Entry{Ino: ino, Name: r.Text(length)}
}

func entryMay(e api.Entry) bool {
	if e == (api.Entry{}) {
		return true
	}
	return within(e.Ino, 1, maxIno) && (isDots(e.Name) || IsName(e.Name))
}

// IsName tells whether a text is a name.
func IsName(s string) bool {
	if !within(len(s), 1, api.MaxName) || isDots(s) {
		return false
	}
	for i := range len(s) {
		if !isLetter(s[i]) {
			return false
		}
	}
	return true
}

func isLetter(c byte) bool {
	return firstLetter <= c && c <= lastLetter && c != '/'
}

// isDots tells the two names that every directory has of its own.
func isDots(s string) bool {
	return s == "." || s == ".."
}
