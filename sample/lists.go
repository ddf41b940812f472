package sample

import (
	"slices"
	"strings"
)

// Lists are lists of numbers by words: "1, 0 0, -" are 1; 0 0; none.
func Lists(t Test, words string) [][]int {
	t.Helper()
	var all [][]int
	if words == "" {
		return nil
	}
	for _, words := range strings.Split(words, ",") {
		var list []int
		for _, w := range strings.Fields(words) {
			if w != "-" {
				list = append(list, number(t, w))
			}
		}
		all = append(all, list)
	}
	return all
}

// Needs are needs by chance: so many lists, each of at most so many numbers, in any order, some more than once.
func Needs(r Dice, count, most int) [][]int {
	needs := make([][]int, count)
	for i := range needs {
		for range r.Intn(most + 1) {
			needs[i] = append(needs[i], r.Intn(count))
		}
	}
	return needs
}

// Line is an order by chance in which each number stands behind those that it needs, as far as that goes.
func Line(r Dice, needs [][]int) []int {
	var line []int
	behind := make([]bool, len(needs))
	waits := func(n int) bool { return !behind[n] }
	for {
		var ready []int
		for i, need := range needs {
			if !behind[i] && !slices.ContainsFunc(need, waits) {
				ready = append(ready, i)
			}
		}
		if len(ready) == 0 {
			return line
		}
		next := ready[r.Intn(len(ready))]
		behind[next] = true
		line = append(line, next)
	}
}

// RoomyLists is these lists with spare room in each, and in the list of them.
func RoomyLists(lists [][]int) [][]int {
	all := append(slices.Clone(lists), []int{-7}, nil)
	for i, l := range lists {
		all[i] = append(slices.Clone(l), 77, 78, 79)[:len(l)]
	}
	return all[:len(lists)]
}

// WholeLists is all that stands in lists, spare room too, in memory of its own.
func WholeLists(lists [][]int) [][]int {
	all := slices.Clone(lists[:cap(lists)])
	for i, l := range all {
		all[i] = slices.Clone(l[:cap(l)])
	}
	return all
}

// Spoil writes over all that lists have, spare room too, one list ahead of the other.
func Spoil(lists [][]int) {
	for _, l := range lists {
		l = l[:cap(l)]
		for i := range l {
			l[i] = -9
		}
	}
}
