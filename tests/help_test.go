package tests

import (
	"iter"
	"slices"
	"strings"
)

// listsOf goes through all lists of at most most of the elements.
func listsOf[T any](elements []T, most int) iter.Seq[[]T] {
	return func(yield func([]T) bool) {
		lists := [][]T{nil}
		for len(lists) > 0 {
			list := lists[0]
			lists = lists[1:]
			if !yield(list) {
				return
			}
			for i := 0; i < len(elements) && len(list) < most; i++ {
				lists = append(lists, append(slices.Clone(list), elements[i]))
			}
		}
	}
}

// joinsOf goes through all strings that are joined of at most most of the parts.
func joinsOf(parts []string, most int) iter.Seq[string] {
	return func(yield func(string) bool) {
		for list := range listsOf(parts, most) {
			if !yield(strings.Join(list, "")) {
				return
			}
		}
	}
}

// textsOf goes through all strings of at most most bytes of letters.
func textsOf(letters string, most int) iter.Seq[string] {
	var parts []string
	for i := range len(letters) {
		parts = append(parts, letters[i:i+1])
	}
	return joinsOf(parts, most)
}

func fill[T any](list []T, element T) {
	for i := range list {
		list[i] = element
	}
}
