package dirs

import (
	"bollard/api"
	"bollard/layout"
)

// kind is what an entry is good for.
type kind int

const (
	wrong kind = iota // it may not be
	empty
	named
)

func kindOf(e api.Entry) kind {
	_, why := layout.EncodeEntry(e)
	switch {
	case why != api.OK:
		return wrong
	case e == (api.Entry{}):
		return empty
	}
	return named
}

// page is a block's entries, in their places. No two of them have one name.
type page [api.Entries]api.Entry

// read is the page of which these are the bytes, if there is one.
func read(b []byte) (page, bool) {
	if len(b) != api.Size {
		return page{}, false
	}
	var p page
	for at := range p {
		e, why := layout.DecodeEntry(b[at*api.EntryLen : (at+1)*api.EntryLen])
		if why != api.OK || !p.put(at, e) {
			return page{}, false
		}
	}
	return p, true
}

func (p *page) bytes() []byte {
	b := make([]byte, 0, api.Size)
	for _, e := range p {
		written, _ := layout.EncodeEntry(e) // never refused: put has taken it
		b = append(b, written...)
	}
	return b
}

// put sets an entry at a place, if it may stand there beside the others.
func (p *page) put(at int, e api.Entry) bool {
	switch kindOf(e) {
	case named:
		if _, there := p.find(e.Name); there {
			return false
		}
		fallthrough // beyond its name it is taken as an empty one is
	case empty:
		p[at] = e
		return true
	}
	return false
}

// find is where a name stands. An empty entry has none, not even the empty one.
func (p *page) find(name string) (int, bool) {
	for at, e := range p {
		if e != (api.Entry{}) && e.Name == name {
			return at, true
		}
	}
	return 0, false
}

func (p *page) free() (int, bool) {
	for at, e := range p {
		if e == (api.Entry{}) {
			return at, true
		}
	}
	return 0, false
}
