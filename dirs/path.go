package dirs

import (
	"strings"

	"bollard/api"
	"bollard/layout"
)

// slash begins a path, and parts its names.
const slash = "/"

// Split is a path's names.
func Split(path string) ([]string, api.Errno) {
	rest, rooted := strings.CutPrefix(path, slash)
	switch {
	case !rooted:
		return nil, api.ErrName
	case rest == "":
		return nil, api.OK
	}
	var names []string
	for more := true; more; {
		var name string
		name, rest, more = strings.Cut(rest, slash)
		if !layout.IsName(name) {
			return nil, api.ErrName
		}
		// It goes on to the path's end, since what is no path is told first, but
		// keeps just one name more than may be told.
		if len(names) <= api.MaxDepth {
			names = append(names, strings.Clone(name))
		}
	}
	if len(names) > api.MaxDepth {
		return nil, api.ErrLong
	}
	return names, api.OK
}

// Base is all of a path's names but the last one, and that.
func Base(path string) ([]string, string, api.Errno) {
	names, why := Split(path)
	switch {
	case why != api.OK:
		return nil, "", why
	case len(names) == 0:
		return nil, "", api.ErrArg
	}
	last := len(names) - 1
	return names[:last], names[last], api.OK
}
