package layout

import (
	"strings"
	"testing"

	"bollard/api"
)

// entryBytes is bytes of an entry with that length, whether it may be or not.
func entryBytes(ino, length int, name string) []byte {
	return padded(append(numbers(2, ino, 1, length), name...), 16)
}

// isName is the rule of names once more, byte by byte from a list of them.
func isName(s string) bool {
	const letters = "!\"#$%&'()*+,-.0123456789:;<=>?@ABCDEFGHIJKLMNOPQRSTUVWXYZ[\\]^_`abcdefghijklmnopqrstuvwxyz{|}~"
	for i := range len(s) {
		if strings.IndexByte(letters, s[i]) < 0 {
			return false
		}
	}
	return s != "" && len(s) <= 13 && s != "." && s != ".."
}

func TestP3_3IsName(t *testing.T) {
	for _, s := range []string{"a", "!", "~", "abcdefghijklm", "...", ".a", "a.", "..a", "a..", ".x", "-", "A0_z", strings.Repeat(".", 13)} {
		if !IsName(s) {
			t.Errorf("%q is none", s)
		}
	}
	for _, s := range []string{"", ".", "..", "abcdefghijklmn", "/", "a/b", "/a", "a/", " ", "a b", "\x7f", "a\x00", "\x00", "\n", "é", "\xff", "\x80",
		"abcdefghijkl/", strings.Repeat("a", 14), strings.Repeat("a", 1<<16), strings.Repeat(".", 14)} {
		if IsName(s) {
			t.Errorf("%q is one", s)
		}
	}
}

func TestP3_3IsNameBytes(t *testing.T) {
	for x := range 256 {
		c := string([]byte{byte(x)})
		for _, s := range []string{c, c + "a", "a" + c, "." + c, c + ".", "abcdef" + c + "hijklm", "abcdefghijkl" + c, c + "bcdefghijklm"} {
			if IsName(s) != isName(s) {
				t.Errorf("%q: %v", s, IsName(s))
			}
		}
	}
}

func TestP3_1EntryBytes(t *testing.T) {
	for _, x := range []struct {
		e api.Entry
		b string
	}{
		{api.Entry{Ino: 2, Name: "."}, "\x02\x00\x01."},
		{api.Entry{Ino: 2, Name: ".."}, "\x02\x00\x02.."},
		{api.Entry{}, ""},
		{api.Entry{Ino: 1, Name: "a"}, "\x01\x00\x01a"},
		{api.Entry{Ino: 511, Name: "abcdefghijklm"}, "\xff\x01\x0dabcdefghijklm"},
		{api.Entry{Ino: 256, Name: "..."}, "\x00\x01\x03..."},
		{api.Entry{Ino: 3, Name: "!~"}, "\x03\x00\x02!~"},
	} {
		holds(t, x.e, padded([]byte(x.b), 16), EncodeEntry, DecodeEntry)
	}
	for ino := 1; ino < 512; ino++ {
		holds(t, api.Entry{Ino: ino, Name: "x"}, entryBytes(ino, 1, "x"), EncodeEntry, DecodeEntry)
	}
}

func TestP3_1EntryMayNot(t *testing.T) {
	for _, name := range []string{"", "a/b", "/", "abcdefghijklmn", "a b", "\x00", "a\x7f", strings.Repeat("x", 300), "\xff"} {
		for _, ino := range []int{1, 3, 511} {
			mayNot(t, api.Entry{Ino: ino, Name: name}, EncodeEntry)
		}
	}
	for _, ino := range append(wild(), 0, 512, 513, 0xffff, 0x10001) {
		for _, name := range []string{"a", ".", "..", "abcdefghijklm", "a/b"} {
			mayNot(t, api.Entry{Ino: ino, Name: name}, EncodeEntry)
		}
		if ino != 0 {
			mayNot(t, api.Entry{Ino: ino}, EncodeEntry)
		}
	}
}

func TestP3_2EntryForm(t *testing.T) {
	for _, b := range [][]byte{
		entryBytes(0, 1, "a"), entryBytes(0, 1, "."), entryBytes(0, 1, ""), entryBytes(0, 0, "a"), entryBytes(0, 13, ""), entryBytes(0, 14, ""), entryBytes(0, 255, ""),
		entryBytes(1, 0, ""), entryBytes(511, 0, ""), entryBytes(1, 0, "a"),
		entryBytes(512, 1, "a"), entryBytes(0xffff, 1, "a"), entryBytes(0x8001, 1, "a"),
		entryBytes(1, 14, "abcdefghijklm"), entryBytes(1, 255, "abcdefghijklm"), entryBytes(1, 128, "a"),
		entryBytes(1, 2, "a"), entryBytes(1, 1, "ab"), entryBytes(1, 1, ".."), entryBytes(1, 1, "a\x00b"), entryBytes(1, 1, "a           b"), entryBytes(1, 13, "abcdefghijkl"),
		entryBytes(1, 3, "a/b"), entryBytes(1, 1, "/"), entryBytes(1, 3, "a b"), entryBytes(1, 1, "\x7f"), entryBytes(1, 1, "\xff"), entryBytes(1, 2, ".\x00"),
	} {
		refused(t, b, api.ErrForm, DecodeEntry)
	}
	for at := 1; at < 16; at++ { // an empty entry but for one byte
		refused(t, with(make([]byte, 16), at, 'a'), api.ErrForm, DecodeEntry)
	}
}

// TestP3_4EntryAll: of entries with each length and each byte behind, just
// those that may be are read, and all of them are written as they were.
func TestP3_4EntryAll(t *testing.T) {
	for length := range 256 {
		for _, name := range []string{"", "a", ".", "..", "...", "ab", "abcdefghijkl", "abcdefghijklm", ".a", "a\x00c", "/"} {
			for _, ino := range []int{0, 1, 511, 512} {
				b := entryBytes(ino, length, name)
				want := api.Entry{Ino: ino, Name: name}
				may := ino == 0 && name == "" || ino >= 1 && ino <= 511 && (isName(name) || name == "." || name == "..")
				if length == len(name) && may {
					holds(t, want, b, EncodeEntry, DecodeEntry)
				} else {
					refused(t, b, api.ErrForm, DecodeEntry)
				}
			}
		}
	}
}
