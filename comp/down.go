package comp

import "slices"

// stack is a list to which things are put at its end, and from which they are taken there.
type stack[T any] []T

func (s *stack[T]) put(x T) { *s = append(*s, x) }

// take takes what was put last.
func (s *stack[T]) take() T {
	last := len(*s) - 1
	x := (*s)[last]
	*s = (*s)[:last]
	return x
}

// spot is a number from which a search goes on, and the numbers that it leads to and that were not looked at as yet.
type spot struct {
	number int
	rest   []int
}

// groups are the numbers that need one another, each group rising, and all by their least numbers.
func groups(needs [][]int) [][]int {
	marks := make([]bool, len(needs))
	var left []int
	for n := range len(needs) {
		left = append(left, down(needs, n, marks)...)
	}
	// Of those that are in no group as yet, the one that was left last is needed by none but its own group.
	clear(marks)
	asked := turned(needs)
	var list [][]int
	for _, n := range slices.Backward(left) {
		if group := down(asked, n, marks); len(group) > 0 {
			slices.Sort(group)
			list = append(list, group)
		}
	}
	slices.SortFunc(list, slices.Compare)
	return list
}

// turned has, of each number, those that need it.
func turned(needs [][]int) [][]int {
	list := make([][]int, len(needs))
	for i, l := range needs {
		for _, n := range l {
			list[n] = append(list[n], i)
		}
	}
	return list
}

// down searches on from a number to all that it leads to and that have no mark, and gives each its mark; it tells them in the order in which it left them: when all that they lead to was searched.
func down(leads [][]int, number int, marks []bool) []int {
	var left []int
	var way stack[spot] // the numbers by which it came to the one where it is
	var here spot
	if marks[number] {
		return nil
	}
enter:
	marks[number] = true
	here = spot{number: number, rest: leads[number]}
look:
	if len(here.rest) == 0 {
		goto leave
	}
	number, here.rest = here.rest[0], here.rest[1:]
	if marks[number] {
		goto look
	}
	way.put(here)
	goto enter
leave:
	left = append(left, here.number)
	if len(way) == 0 {
		return left
	}
	here = way.take()
	goto look
}
