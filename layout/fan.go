package layout

import (
	"bollard/api"
	"bollard/word"
)

// EncodeFan is the bytes of an indirect block with these addresses.
func EncodeFan(l []int) ([]byte, api.Errno) {
	if len(l) != api.Fan || !areAddresses(l) {
		return nil, api.ErrArg
	}
	p := newPage(api.Size)
	p.numbers(addressWide, l)
	return p.bytes, api.OK
}

// DecodeFan is the addresses in an indirect block.
func DecodeFan(b []byte) ([]int, api.Errno) {
	if len(b) != api.Size {
		return nil, api.ErrForm
	}
	l := make([]int, api.Fan)
	takeAll(word.Over(b), addressWide, l)
	if !areAddresses(l) {
		return nil, api.ErrForm
	}
	return l, api.OK
}
