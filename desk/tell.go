package desk

import (
	"strconv"
	"strings"

	"bollard/api"
)

const hexDigits = "0123456789abcdef"

// told is a word, and numbers behind it.
func told(first string, numbers ...int) string {
	words := []string{first}
	for _, n := range numbers {
		words = append(words, strconv.Itoa(n))
	}
	return strings.Join(words, blank)
}

func tellOK(api.Answer) string {
	return "ok"
}

func tellDescriptor(a api.Answer) string {
	return told("fd", a.N)
}

func tellWritten(a api.Answer) string {
	return told("wrote", a.N)
}

func tellThing(a api.Answer) string {
	if a.Mode == api.ModeDir {
		return told("dir", a.Links, a.Size)
	}
	return told("file", a.Links, a.Size)
}

func tellNames(a api.Answer) string {
	return strings.Join(append([]string{"list"}, a.Names...), blank)
}

func tellBytes(a api.Answer) string {
	if len(a.Bytes) == 0 {
		return "read -"
	}
	return "read " + hexadecimal(a.Bytes)
}

func hexadecimal(b []byte) string {
	var out strings.Builder
	out.Grow(2 * len(b))
	for _, x := range b {
		out.WriteByte(hexDigits[x>>4])
		out.WriteByte(hexDigits[x&15])
	}
	return out.String()
}

func tellAsked(all []api.Request) string {
	words := []string{"asked"}
	for _, r := range all {
		parts := []string{strconv.Itoa(r.Kind), strconv.Itoa(r.N), strconv.Itoa(r.To)}
		words = append(words, strings.Join(parts, ":"))
	}
	return strings.Join(words, blank)
}
