package adjust

import (
	"slices"

	"bollard/api"
)

// A rule is an error, and any number of things that are so, or not.

// ifAny is the error, if one of the things is so.
func ifAny(why api.Errno, so ...bool) api.Errno {
	if slices.Contains(so, true) {
		return why
	}
	return api.OK
}

// unlessAny is the error, if none of the things is so.
func unlessAny(why api.Errno, so ...bool) api.Errno {
	if slices.Contains(so, true) {
		return api.OK
	}
	return why
}

// firstOf is the first error of some rules. Those behind it are not asked: they
// lean on what it tells.
func firstOf(rules ...func() api.Errno) api.Errno {
	for _, rule := range rules {
		if why := rule(); why != api.OK {
			return why
		}
	}
	return api.OK
}
