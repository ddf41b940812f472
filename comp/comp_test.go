package comp_test

import (
	"fmt"
	"math/rand"
	"reflect"
	"slices"
	"sync"
	"testing"

	"shunt/api"
	"shunt/comp"
	"shunt/diff"
	"shunt/graph"
	"shunt/sample"
)

// is holds what a call answered against what it should have.
func is[T comparable](t *testing.T, what string, got, want T) {
	t.Helper()
	if got != want {
		t.Errorf("%s: %v, want %v", what, got, want)
	}
}

// rows are needs, the components of them, and those that go round.
type rows []struct{ needs, all, round string }

func (r rows) hold(t *testing.T) {
	t.Helper()
	for _, x := range r {
		needs := sample.Lists(t, x.needs)
		all, e := comp.Components(needs)
		is(t, x.needs+": Components", fmt.Sprint(all, e), fmt.Sprint(sample.Lists(t, x.all), api.OK))
		round, e := comp.Round(needs)
		is(t, x.needs+": Round", fmt.Sprint(round, e), fmt.Sprint(sample.Lists(t, x.round), api.OK))
	}
}

// refused wants both calls to tell this error, and nothing beside it.
func refused(t *testing.T, what string, needs [][]int, want api.Errno) {
	t.Helper()
	all, e := comp.Components(needs)
	if e != want || len(all) > 0 {
		t.Errorf("%s: Components: %v, %v, want %v", what, all, e, want)
	}
	round, e := comp.Round(needs)
	if e != want || len(round) > 0 {
		t.Errorf("%s: Round: %v, %v, want %v", what, round, e, want)
	}
}

// each is so many lists of so many numbers, all of them this one.
func each(count, numbers, number int) [][]int {
	var all [][]int
	for range count {
		all = append(all, slices.Repeat([]int{number}, numbers))
	}
	return all
}

// TestP1401Errors: what is too long first, wherever it stands, then what is no place.
func TestP1401Errors(t *testing.T) {
	refused(t, "too many lists", each(api.MaxActs+1, 0, 0), api.ErrLong)
	refused(t, "too many numbers", each(1, api.MaxActs+1, 0), api.ErrLong)
	refused(t, "too many numbers in the last one", append(each(5, 1, 0), each(1, api.MaxActs+1, 0)...), api.ErrLong)
	refused(t, "too many lists of what is no place", each(api.MaxActs+1, 1, -1), api.ErrLong)
	refused(t, "too many numbers that are no places", each(1, api.MaxActs+1, 7), api.ErrLong)
	refused(t, "no place, then too many numbers", append(each(1, 1, 9), each(1, api.MaxActs+1, 0)...), api.ErrLong)
	refused(t, "far too many", each(5*api.MaxActs, 3, 0), api.ErrLong)
	for _, words := range []string{"1", "-1", "0 1", "1 0", "0 -1", "1,2", "0,-,3", "-,-,0 1 2 3", "5", "9223372036854775807", "-9223372036854775808", "0,4294967296"} {
		refused(t, words, sample.Lists(t, words), api.ErrArg)
	}
	refused(t, "no place behind many", append(each(api.MaxActs-1, api.MaxActs, 0), []int{api.MaxActs}), api.ErrArg)
	refused(t, "no place as the last of many", append(each(1, api.MaxActs, 0), append(slices.Repeat([]int{0}, api.MaxActs-1), 2)), api.ErrArg)
}

// TestP1401Components: which numbers are together.
func TestP1401Components(t *testing.T) {
	rows{
		{"", "", ""},
		{"-", "0", ""},
		{"-,-,-", "0,1,2", ""},
		// two and more that need one another, straight or by others
		{"1,0", "0 1", "0 1"},
		{"1,2,0", "0 1 2", "0 1 2"},
		{"2,0,1", "0 1 2", "0 1 2"},
		{"3,-,1,0", "0 3,1,2", "0 3"},
		{"1,2,3,4,0", "0 1 2 3 4", "0 1 2 3 4"},
		{"1 2,0,0", "0 1 2", "0 1 2"},
		{"1,0 2,1 3,2", "0 1 2 3", "0 1 2 3"},
		{"4,3,0,1,2", "0 2 4,1 3", "0 2 4,1 3"},
		// one needs the other, the other not it
		{"1,-", "1,0", ""},
		{"-,0", "0,1", ""},
		{"1 2,2,-", "2,1,0", ""},
		{"1,2 0,3,2", "2 3,0 1", "0 1,2 3"},
		{"1 2,0,3,2", "2 3,0 1", "0 1,2 3"},
		// two ways to one that goes round no more
		{"1 2,3,3,-", "3,1,2,0", ""},
		// more than once
		{"1 1 1,0 0", "0 1", "0 1"},
		{"1 1 1,-", "1,0", ""},
		{"0 0,0 0 0", "0,1", "0"},
	}.hold(t)
}

// TestP1401Order: ever again the one with the least number of those whose needs are told.
func TestP1401Order(t *testing.T) {
	rows{
		{"4,-,-,-,-", "1,2,3,4,0", ""},
		{"-,4,-,-,-", "0,2,3,4,1", ""},
		{"2,-,-", "1,2,0", ""},
		{"3,2,3,-", "3,0,2,1", ""},
		{"3,3,-,-", "2,3,0,1", ""},
		{"2,3,-,-", "2,0,3,1", ""},
		{"2 3,-,3,-", "1,3,2,0", ""},
		// what a great number lets go goes next, if it is less than what waits
		{"1,4,-,-,-", "2,3,4,1,0", ""},
		{"-,3,-,-,2", "0,2,3,1,4", ""},
		{"5,0,1,-,3,4", "3,4,5,0,1,2", ""},
		// the least number counts, not the one by which others need it
		{"5,-,4,-,2,0", "0 5,1,2 4,3", "0 5,2 4"},
		{"5 2,-,4,-,2,0", "1,2 4,0 5,3", "0 5,2 4"},
		{"4,3,-,1,0,0", "0 4,1 3,2,5", "0 4,1 3"},
		{"4 3,3,-,1,0,0", "1 3,0 4,2,5", "0 4,1 3"},
		// a need within holds up nothing
		{"0,1,2", "0,1,2", "0,1,2"},
		{"2,2,2", "2,0,1", "2"},
		// one that needs much, often
		{"1 2 3 1 2 3,2 2,3 3 3,-", "3,2,1,0", ""},
		{"1 1,-,0 0 1", "1,0,2", ""},
	}.hold(t)
}

// TestP1402Round: the components of more than one, and those that need themselves, by their least numbers.
func TestP1402Round(t *testing.T) {
	rows{
		{"0", "0", "0"},
		{"0,-", "0,1", "0"},
		{"-,1", "0,1", "1"},
		{"-,0 1", "0,1", "1"},
		{"1,1", "1,0", "1"},
		{"0 1,0", "0 1", "0 1"},
		{"-,2,1,3,-,6,5", "0,1 2,3,4,5 6", "1 2,3,5 6"},
		// not in the order in which they come behind one another
		{"1,0 2,3,2", "2 3,0 1", "0 1,2 3"},
		{"0 2,2,2", "2,0,1", "0,2"},
		{"0 1,1 2,2 3,3", "3,2,1,0", "0,1,2,3"},
		{"7,6,5,4,3,2,1,0", "0 7,1 6,2 5,3 4", "0 7,1 6,2 5,3 4"},
		{"7 1,6 2,5 3,4,3,2,1,0", "3 4,2 5,1 6,0 7", "0 7,1 6,2 5,3 4"},
	}.hold(t)
}

// reaches tells of each two numbers whether the one needs the other, by way of others or straight.
func reaches(needs [][]int) [][]bool {
	way := make([][]bool, len(needs))
	for i, list := range needs {
		way[i] = make([]bool, len(needs))
		for _, n := range list {
			way[i][n] = true
		}
	}
	for k := range way {
		for i := range way {
			for j := range way {
				way[i][j] = way[i][j] || way[i][k] && way[k][j]
			}
		}
	}
	return way
}

// plain tells the components by the chapter's words, and those that go round.
func plain(needs [][]int) (all, round [][]int) {
	way := reaches(needs)
	told := make([]bool, len(needs))
	group := func(i int) []int {
		var list []int
		for j := range needs {
			if i == j || way[i][j] && way[j][i] {
				list = append(list, j)
			}
		}
		return list
	}
	free := func(i int) bool {
		for j := range needs {
			if way[i][j] && !way[j][i] && !told[j] {
				return false
			}
		}
		return !told[i]
	}
	for i := 0; i < len(needs); i++ {
		if g := group(i); g[0] == i && way[i][i] {
			round = append(round, g)
		}
	}
	for i := 0; i < len(needs); i++ {
		if free(i) {
			g := group(i)
			all = append(all, g)
			for _, n := range g {
				told[n] = true
			}
			i = -1 // the least one, ever again
		}
	}
	return all, round
}

// sound holds what both calls tell of needs against the chapter's words.
func sound(t *testing.T, needs [][]int) {
	t.Helper()
	all, round := plain(needs)
	got, e := comp.Components(needs)
	if e != api.OK || !same(got, all) {
		t.Fatalf("Components of %v: %v, %v, want %v", needs, got, e, all)
	}
	got, e = comp.Round(needs)
	if e != api.OK || !same(got, round) {
		t.Fatalf("Round of %v: %v, %v, want %v", needs, got, e, round)
	}
}

func same(a, b [][]int) bool {
	return slices.EqualFunc(a, b, func(x, y []int) bool { return slices.Equal(x, y) })
}

// TestP1401Small: all needs of at most four numbers.
func TestP1401Small(t *testing.T) {
	for n := range 5 {
		for code := range 1 << (n * n) {
			needs := make([][]int, n)
			for bit := range n * n {
				if code>>bit&1 == 1 {
					needs[bit/n] = append(needs[bit/n], bit%n)
				}
			}
			sound(t, needs)
		}
	}
}

// TestP1401Chance: needs by chance, in any order, with numbers that stand more than once.
func TestP1401Chance(t *testing.T) {
	r := rand.New(rand.NewSource(141))
	for range 6000 {
		sound(t, sample.Needs(r, 1+r.Intn(14), r.Intn(4)))
	}
	for range 30 {
		sound(t, sample.Needs(r, 60+r.Intn(60), 1+r.Intn(3)))
	}
}

// TestP1401Acts: what chapters 12 and 13 tell.
func TestP1401Acts(t *testing.T) {
	r := rand.New(rand.NewSource(142))
	for range 500 {
		a, b := sample.Chance(t, r), sample.Chance(t, r)
		acts, e := diff.Acts(a, b, sample.Contents("yy", "", "x", "y", "xx"))
		is(t, "Acts", e, api.OK)
		needs, e := graph.Needs(a, acts)
		is(t, "Needs", e, api.OK)
		sound(t, needs)
	}
}

// chain has each number need another one, so far behind it; the last ones none.
func chain(step int) [][]int {
	needs := make([][]int, api.MaxActs)
	for i := range api.MaxActs - step {
		needs[i] = []int{i + step}
	}
	return needs
}

// TestP1401Great: needs at their bounds.
func TestP1401Great(t *testing.T) {
	last := api.MaxActs - 1
	all := make([]int, api.MaxActs)
	for i := range all {
		all[i] = i
	}
	want := func(what string, needs [][]int, count, round int) [][]int {
		t.Helper()
		list, e := comp.Components(needs)
		is(t, what, e, api.OK)
		is(t, what, len(list), count)
		rounds, e := comp.Round(needs)
		is(t, what, e, api.OK)
		is(t, what, len(rounds), round)
		return list
	}
	list := want("all alone", make([][]int, api.MaxActs), api.MaxActs, 0)
	is(t, "the last one alone", list[last][0], last)
	list = want("a chain", chain(1), api.MaxActs, 0)
	is(t, "a chain's first one", list[0][0], last)
	is(t, "a chain's last one", list[last][0], 0)
	list = want("two chains", chain(2), api.MaxActs, 0)
	is(t, "two chains: the less one first", list[0][0], last-1)
	is(t, "two chains: the one that it lets go next", list[1][0], last-3)
	is(t, "two chains: the less one's last", list[last/2][0], 0)
	is(t, "two chains: the other one behind", list[last/2+1][0], last)
	ring := chain(1)
	ring[last] = []int{0}
	list = want("a ring", ring, 1, 1)
	is(t, "a ring", slices.Equal(list[0], all), true)
	each := make([][]int, api.MaxActs)
	for i := range each {
		each[i] = all
	}
	list = want("each needs each", each, 1, 1)
	is(t, "each needs each", slices.Equal(list[0], all), true)
	for i := range each {
		each[i] = all[i:]
	}
	list = want("each needs itself and all behind it", each, api.MaxActs, api.MaxActs)
	is(t, "all behind it", list[0][0], last)
	for i := range each {
		each[i] = all[i+1:]
	}
	want("each needs all behind it", each, api.MaxActs, 0)
	for i := range each {
		each[i] = slices.Repeat([]int{i ^ 1}, api.MaxActs)
	}
	list = want("pairs", each, api.MaxActs/2, api.MaxActs/2)
	is(t, "a pair", fmt.Sprint(list[3]), "[6 7]")
}

// calls are the package's calls by their names.
var calls = map[string]func([][]int) ([][]int, api.Errno){"Components": comp.Components, "Round": comp.Round}

// TestP1403Stays: what is handed in stays, also where what was answered is turned; what was answered stays where what was handed in is turned.
func TestP1403Stays(t *testing.T) {
	r := rand.New(rand.NewSource(143))
	for range 500 {
		for name, call := range calls {
			needs := sample.RoomyLists(sample.Needs(r, 1+r.Intn(9), r.Intn(3)))
			was := sample.WholeLists(needs)
			list, e := call(needs)
			is(t, name, e, api.OK)
			told := fmt.Sprint(list)
			sample.Spoil(list)
			clear(list[:cap(list)])
			if now := sample.WholeLists(needs); !reflect.DeepEqual(now, was) {
				t.Fatalf("%s: %v, was %v", name, now, was)
			}
			list, _ = call(needs)
			is(t, name+" anew", fmt.Sprint(list), told)
			sample.Spoil(needs)
			clear(needs)
			is(t, name+": what was told", fmt.Sprint(list), told)
		}
	}
	wrong := sample.RoomyLists(sample.Lists(t, "1,2,-,0 4"))
	was := sample.WholeLists(wrong)
	refused(t, "no place", wrong, api.ErrArg)
	is(t, "what is refused stays", reflect.DeepEqual(sample.WholeLists(wrong), was), true)
}

// TestP1403Own: no two lists of an answer have memory together.
func TestP1403Own(t *testing.T) {
	needs := sample.Lists(t, "1,0,2,4,5,3,-,8,7,9")
	for name, call := range calls {
		want, e := call(needs)
		is(t, name, e, api.OK)
		for i := range want {
			got, _ := call(needs)
			_ = append(got[i], 7, 7, 7)
			sample.Spoil(got[i : i+1])
			for j := range got {
				if j != i {
					is(t, name+": another list", fmt.Sprint(got[j]), fmt.Sprint(want[j]))
				}
			}
		}
	}
}

// TestTogether: calls at one time hinder one another in nothing.
func TestTogether(t *testing.T) {
	needs := sample.Lists(t, "1,0 2,3,2,4,-")
	var wait sync.WaitGroup
	for range 8 {
		wait.Go(func() {
			for range 200 {
				all, _ := comp.Components(needs)
				round, _ := comp.Round(needs)
				if fmt.Sprint(all, round) != "[[2 3] [0 1] [4] [5]] [[0 1] [2 3] [4]]" {
					t.Errorf("%v, %v", all, round)
				}
			}
		})
	}
	wait.Wait()
}

func TestExamples(t *testing.T) {
	rows{
		{"1,0,0,-", "0 1,2,3", "0 1"},
		{"1,-,2", "1,0,2", "2"},
		{"3,-,1,-", "1,2,3,0", ""},
	}.hold(t)
	refused(t, "5", sample.Lists(t, "5"), api.ErrArg)
}
