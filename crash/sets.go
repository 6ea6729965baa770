package crash

import (
	"iter"
	"slices"

	"bollard/disk"
)

const mostPlaces = 12 // the sets of so many writes are as many as are told at most: 4096

// sets goes through those of a disk's queue. A queue without writes has one
// set, a disk that no call made none.
func sets(d *disk.Disk, most int) iter.Seq[[]int] {
	if !made(d) {
		most = 0
	}
	return subsets(numbers(d), most)
}

// subsets goes through the sets of a list's things, by their numbers, so many
// at most.
func subsets[T any](list []T, most int) iter.Seq[[]T] {
	all := 1 << min(len(list), mostPlaces)
	return func(yield func([]T) bool) {
		for number := range min(most, all) {
			if !yield(chosen(list, uint64(number))) {
				return
			}
		}
	}
}

// chosen is what stands at those places of a list whose bits a mask has.
func chosen[T any](list []T, mask uint64) []T {
	var out []T
	for place, thing := range list {
		if mask>>place&1 == 1 {
			out = append(out, thing)
		}
	}
	return out
}

// areOf tells whether all of some things are in a list, each as often as there.
func areOf[T comparable](list, some []T) bool {
	left := slices.Clone(list)
	for _, thing := range some {
		at := slices.Index(left, thing)
		if at < 0 {
			return false
		}
		left = slices.Delete(left, at, at+1)
	}
	return true
}
