package order

import "slices"

// line is what waits, in whatever order it came; ahead tells which of two is taken first.
type line[T any] struct {
	list  []T
	ahead func(a, b T) bool
}

func (l *line[T]) put(x T) { l.list = append(l.list, x) }

// take takes the one that is ahead of all others.
func (l *line[T]) take() T {
	first := 0
	for i, x := range l.list {
		if l.ahead(x, l.list[first]) {
			first = i
		}
	}
	x := l.list[first]
	l.list = slices.Delete(l.list, first, first+1)
	return x
}
