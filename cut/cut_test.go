package cut_test

import (
	"fmt"
	"math/rand"
	"reflect"
	"slices"
	"strconv"
	"strings"
	"sync"
	"testing"

	"shunt/api"
	"shunt/comp"
	"shunt/cut"
	"shunt/diff"
	"shunt/graph"
	"shunt/model"
	"shunt/path"
	"shunt/sample"
	"shunt/tree"
)

// is holds what a call answered against what it should have.
func is[T comparable](t *testing.T, what string, got, want T) {
	t.Helper()
	if got != want {
		t.Errorf("%s: %v, want %v", what, got, want)
	}
}

// told wants Break to tell this.
func told(t *testing.T, what string, acts []api.Act, needs [][]int, wantActs []api.Act, wantNeeds [][]int, cuts int) {
	t.Helper()
	gotActs, gotNeeds, n, e := cut.Break(acts, needs)
	got, want := fmt.Sprint(gotActs, gotNeeds, n, e), fmt.Sprint(wantActs, wantNeeds, cuts, api.OK)
	is(t, what, got, want)
}

// rows are actions and their needs, and what becomes of both.
type rows []struct {
	acts, needs         string
	wantActs, wantNeeds string
	cuts                int
}

func (r rows) hold(t *testing.T) {
	t.Helper()
	for _, x := range r {
		told(t, x.acts+" by "+x.needs, sample.Acts(t, x.acts), sample.Lists(t, x.needs), sample.Acts(t, x.wantActs), sample.Lists(t, x.wantNeeds), x.cuts)
	}
}

// refused wants this error, and nothing beside it.
func refused(t *testing.T, what string, acts []api.Act, needs [][]int, want api.Errno) {
	t.Helper()
	gotActs, gotNeeds, n, e := cut.Break(acts, needs)
	if e != want || len(gotActs) > 0 || len(gotNeeds) > 0 || n != 0 {
		t.Errorf("%s: %v, %v, %d, %v, want %v", what, gotActs, gotNeeds, n, e, want)
	}
}

// renames are so many renames, each between two names of its own.
func renames(count int) []api.Act {
	var acts []api.Act
	for i := range count {
		acts = append(acts, api.Act{Op: api.OpRename, Path: "a" + strconv.Itoa(i), To: "b" + strconv.Itoa(i)})
	}
	return acts
}

// pair is so many lists, of which the numbers of each of these pairs need one another.
func pair(count int, pairs ...int) [][]int {
	needs := make([][]int, count)
	for i, n := range pairs {
		needs[n] = []int{pairs[i^1]}
	}
	return needs
}

// TestP1501Errors: what is wrong with needs, and with how many there are of both.
func TestP1501Errors(t *testing.T) {
	const most = api.MaxActs
	long := slices.Repeat([]int{0}, most+1)
	for _, count := range []int{0, 1, 2, 3, most, most + 1} {
		acts := renames(count)
		refused(t, "too many lists", acts, make([][]int, most+1), api.ErrLong)
		refused(t, "too long a list", acts, [][]int{long, nil}, api.ErrLong)
		refused(t, "too long a list of no places", acts, [][]int{{9}, slices.Repeat([]int{-1}, most+1)}, api.ErrLong)
		refused(t, "no place", acts, [][]int{nil, {2}}, api.ErrArg)
		refused(t, "no place", acts, [][]int{{-1}}, api.ErrArg)
		refused(t, "no place", acts, append(make([][]int, most-1), []int{most}), api.ErrArg)
		for _, lists := range []int{0, 1, 2, 3, most} {
			needs := make([][]int, lists)
			if count == lists {
				told(t, "as many lists as actions", acts, needs, acts, needs, 0)
				continue
			}
			refused(t, "not as many lists as actions", acts, needs, api.ErrArg)
			if lists > 1 {
				needs[0], needs[lists-1] = []int{lists - 1}, []int{0}
				refused(t, "not as many lists as actions, going round", acts, needs, api.ErrArg)
			}
		}
	}
	refused(t, "far too many", renames(5*most), make([][]int, 5*most), api.ErrLong)
}

// TestP1501Cycle: what goes round without a rename that can be cut.
func TestP1501Cycle(t *testing.T) {
	for _, x := range []struct{ acts, needs string }{
		{"unlink a", "0"},
		{"unlink a; rmdir b", "1,0"},
		{"mkdir a 1; write b 1 0", "1,0"},
		{"copy a b 1; link b a", "1,0"},
		{"chmod a 1; chmod a 2; chmod a 3", "1,2,0"},
		{"rename .ts-0 b", "0"},
		{"rename .ts-0 b; rename .ts-1 c", "1,0"},
		{"rename .ts b; unlink a", "1,0"},
		{"rename .tsx b; unlink a", "1,0"},
		{"rename a/.ts-0 b; unlink a", "1,0"},
		{"rename .ts-0/a b; unlink a", "1,0"},
		// a rename is there, but does not go round
		{"unlink a; rmdir b; rename c d", "1,0,-"},
		{"unlink a; rmdir b; rename c d", "1,0,0"},
		{"unlink a; rmdir b; rename c d", "1 2,0,-"},
		// the first that goes round has none, a later one has
		{"unlink a; unlink b; rename c d", "1,0,2"},
		{"unlink a; rename c d; rmdir b; rename d c", "2,3,0,1"},
		// the first one has, the later one has none
		{"rename c d; unlink a; rename d c; unlink b", "2,3,0,1"},
		{"rename c d; unlink a", "0,1"},
		// what is left behind a cut has none
		{"rename a b; unlink a; unlink c", "1,0 2,1"},
		{"rename a b; chmod b 1", "1,0"},
		{"rename a b; chmod b 1; unlink a", "2,0 2,1"},
	} {
		refused(t, x.acts+" by "+x.needs, sample.Acts(t, x.acts), sample.Lists(t, x.needs), api.ErrCycle)
	}
}

// TestP1501Ops: of what is no action only that is told which goes round.
func TestP1501Ops(t *testing.T) {
	for _, op := range []int{-1 << 63, -3, -1, 0, api.OpSync, api.OpSync + 1, 259, 1<<32 + api.OpRename, 1<<63 - 1} {
		acts := []api.Act{{Op: op, Path: "a", To: "b", Mode: -7, Ref: 1 << 40}, {Op: api.OpRename, Path: "b", To: "a"}}
		told(t, "nothing goes round", acts, [][]int{{}, {0}}, acts, [][]int{{}, {0}}, 0)
		refused(t, "it goes round alone", acts, [][]int{{0}, {}}, api.ErrCycle)
		want := []api.Act{acts[0], {Op: api.OpRename, Path: "b", To: ".ts-0"}, {Op: api.OpRename, Path: ".ts-0", To: "a"}}
		told(t, "another one is cut", acts, [][]int{{1}, {0}}, want, [][]int{{1}, {}, {0, 1}}, 1)
	}
}

// TestP1501Most: no more actions than there may be.
func TestP1501Most(t *testing.T) {
	const most = api.MaxActs
	acts := renames(most)
	told(t, "nothing goes round", acts, make([][]int, most), acts, make([][]int, most), 0)
	refused(t, "one goes round", acts, pair(most, most-1, most-1), api.ErrLong)
	refused(t, "two go round", acts, pair(most, 0, most-1), api.ErrLong)
	acts[7] = api.Act{Op: api.OpUnlink, Path: "a"}
	refused(t, "none can be cut, nor is there room", acts, pair(most, 7, 7), api.ErrCycle)
	refused(t, "none can be cut first", acts, pair(most, 7, 7, 8, 9), api.ErrCycle)
	refused(t, "no room first", acts, pair(most, 5, 6, 7, 7), api.ErrLong)

	acts = renames(most - 1)
	want := append(slices.Clone(acts), api.Act{Op: api.OpRename, Path: ".ts-0", To: "b1"})
	want[1].To = ".ts-0"
	needs := pair(most, 2, 1, most-1, 1)
	needs[1], needs[most-1] = nil, []int{1, 2}
	told(t, "the last that there is room for", acts, pair(most-1, 1, 2), want, needs, 1)
	refused(t, "one more", acts, pair(most-1, 1, 2, 5, 6), api.ErrLong)
}

// upTo are the numbers ahead of this one.
func upTo(count int) []int {
	list := make([]int, count)
	for i := range list {
		list[i] = i
	}
	return list
}

// TestP1501Many: as many cuts as there is room for, with temporary names in a row.
func TestP1501Many(t *testing.T) {
	const count = 682
	acts := renames(count)
	want, needs := slices.Clone(acts), pair(count, upTo(count)...)
	for k := range count / 2 {
		temp := ".ts-" + strconv.Itoa(k)
		want[2*k].To = temp
		want = append(want, api.Act{Op: api.OpRename, Path: temp, To: acts[2*k].To})
		needs[2*k] = nil
		needs = append(needs, []int{2 * k, 2*k + 1})
	}
	told(t, "pairs", acts, pair(count, upTo(count)...), want, needs, count/2)
	refused(t, "one pair more", renames(count+2), pair(count+2, upTo(count+2)...), api.ErrLong)
	acts = renames(40)
	each := slices.Repeat([][]int{upTo(40)}, 40)
	gotActs, gotNeeds, n, e := cut.Break(acts, each)
	is(t, "each needs each and itself", e, api.OK)
	is(t, "cuts", n, 40)
	for i := range 40 {
		is(t, "cut", gotActs[i].To, ".ts-"+strconv.Itoa(i))
		is(t, "of which nothing is needed", len(gotNeeds[i]), 0)
		is(t, "and the way on", gotActs[40+i], api.Act{Op: api.OpRename, Path: ".ts-" + strconv.Itoa(i), To: acts[i].To})
		is(t, "of which all is needed", slices.Equal(gotNeeds[40+i], upTo(40)), true)
	}
}

// TestP1501Still: where nothing goes round, needs are put in order, and that is all.
func TestP1501Still(t *testing.T) {
	rows{
		{"", "", "", "", 0},
		{"rename a b", "-", "rename a b", "-", 0},
		{"unlink a; rmdir b; mkdir c 1", "-,-,-", "unlink a; rmdir b; mkdir c 1", "-,-,-", 0},
		{"unlink a; rmdir b; mkdir c 1", "-,0 0,1 0", "unlink a; rmdir b; mkdir c 1", "-,0,0 1", 0},
		{"rename a b; rename b c; rename c d; rename d e", "1 3 2,2,3 3 3,-", "rename a b; rename b c; rename c d; rename d e", "1 2 3,2,3,-", 0},
		{"chmod a 1; chmod a 2; chmod a 3; chmod a 4", "3 2 1 2 3,3 2,3,-", "chmod a 1; chmod a 2; chmod a 3; chmod a 4", "1 2 3,2 3,3,-", 0},
		{"rename .ts-0 a; rename b .ts-1", "1 1,-", "rename .ts-0 a; rename b .ts-1", "1,-", 0},
	}.hold(t)
}

// TestP1501Which: in the first component that goes round, the first rename of what is not kept.
func TestP1501Which(t *testing.T) {
	rows{
		// itself
		{"rename a a", "0", "rename a .ts-0; rename .ts-0 a", "-,0", 1},
		{"unlink c; rename a a", "-,0 1 1 0", "unlink c; rename a .ts-0; rename .ts-0 a", "-,-,0 1", 1},
		// the first one of several
		{"rename a b; rename b c; rename c a", "1,2,0", "rename a .ts-0; rename b c; rename c a; rename .ts-0 b", "-,2,0,0 1", 1},
		{"rename c a; rename b c; rename a b", "2,0,1", "rename c .ts-0; rename b c; rename a b; rename .ts-0 a", "-,0,1,0 2", 1},
		// others stand ahead of it
		{"unlink x; rmdir d; rename d/x d", "-,2 0,1", "unlink x; rmdir d; rename d/x .ts-0; rename .ts-0 d", "-,0 2,-,1 2", 1},
		{"mkdir a 1; write c 1 0; link d e; copy d e 1; chmod d 1; rename a a/x", "1,2,3,4,5,0", "mkdir a 1; write c 1 0; link d e; copy d e 1; chmod d 1; rename a .ts-0; rename .ts-0 a/x", "1,2,3,4,5,-,0 5", 1},
		// those that do not go round stand ahead of it
		{"rename x y; rename a b; rename b a", "-,2,1", "rename x y; rename a .ts-0; rename b a; rename .ts-0 b", "-,-,1,1 2", 1},
		{"rename x y; rename a b; rename b a", "1 2,2,1", "rename x y; rename a .ts-0; rename b a; rename .ts-0 b", "1 2,-,1,1 2", 1},
		{"rename x y; rename a b; rename b a", "-,2 0,1 0", "rename x y; rename a .ts-0; rename b a; rename .ts-0 b", "-,-,0 1,0 1 2", 1},
		// what is kept is passed over; where it goes does not matter
		{"rename .ts-0 b; rename b a", "1,0", "rename .ts-0 b; rename b .ts-0; rename .ts-0 a", "1,-,0 1", 1},
		{"rename .tsx b; rename a/.ts b; rename .ts/a b; rename b a", "1,2,3,0", "rename .tsx b; rename a/.ts b; rename .ts/a b; rename b .ts-0; rename .ts-0 a", "1,2,3,-,0 3", 1},
		{"rename a .ts-7; rename .ts-7 a", "1,0", "rename a .ts-0; rename .ts-7 a; rename .ts-0 .ts-7", "-,0,0 1", 1},
		{"rename a .ts-0; rename b a", "1,0", "rename a .ts-0; rename b a; rename .ts-0 .ts-0", "-,0,0 1", 1},
		{"rename ts b; rename b ts", "1,0", "rename ts .ts-0; rename b ts; rename .ts-0 b", "-,0,0 1", 1},
		{"rename a.ts b; rename b ts", "1,0", "rename a.ts .ts-0; rename b ts; rename .ts-0 b", "-,0,0 1", 1},
		// several that go round: the least numbers first
		{"rename a b; rename c d; rename d c; rename b a", "3,2,1,0", "rename a .ts-0; rename c .ts-1; rename d c; rename b a; rename .ts-0 b; rename .ts-1 d", "-,-,1,0,0 3,1 2", 2},
		{"unlink x; rename a b; rename b a", "2,1,0", "unlink x; rename a .ts-1; rename b .ts-0; rename .ts-0 a; rename .ts-1 b", "2,-,-,0 2,1", 2},
		{"rmdir d; rename a b; rename b a; rename d/x d", "3,2,1,0", "rmdir d; rename a .ts-1; rename b a; rename d/x .ts-0; rename .ts-0 d; rename .ts-1 b", "3,-,1,-,0 3,1 2", 2},
		// one needs another one that goes round: the order is by numbers, not by that
		{"rename a b; rename b a; rename c d; rename d c", "1 2,0,3,2", "rename a .ts-0; rename b a; rename c .ts-1; rename d c; rename .ts-0 b; rename .ts-1 d", "-,0,-,2,0 1 2,2 3", 2},
		// what is left behind a cut goes round still, but another one is less now
		{"rename a b; rename c d; rename d c; rename e f; rename f e", "3,2,1,0 4,3", "rename a .ts-0; rename c .ts-1; rename d c; rename e .ts-2; rename f e; rename .ts-0 b; rename .ts-1 d; rename .ts-2 f", "-,-,1,-,3,0 3,1 2,0 3 4", 3},
	}.hold(t)
}

// TestP1501Instead: what needed the rename, and wants its file where it went, needs the way on.
func TestP1501Instead(t *testing.T) {
	rows{
		{"rename a b; rename b a; link b c", "1,0,0", "rename a .ts-0; rename b a; link b c; rename .ts-0 b", "-,0,3,0 1", 1},
		{"rename a b; rename b a; copy b c 1", "1,0,0", "rename a .ts-0; rename b a; copy b c 1; rename .ts-0 b", "-,0,3,0 1", 1},
		{"rename a b; rename b a; chmod b 1", "1,0,0", "rename a .ts-0; rename b a; chmod b 1; rename .ts-0 b", "-,0,3,0 1", 1},
		// of what is needed beside, the way on stands last
		{"chmod b 1; unlink x; rename a b; rename b a; unlink y", "4 2 1,-,3,2,-", "chmod b 1; unlink x; rename a .ts-0; rename b a; unlink y; rename .ts-0 b", "1 4 5,-,-,2,-,2 3", 1},
		{"link b c; rename a b; rename b a; copy b d 1; chmod b 1", "1 2,2,1,0 1,0 1 3", "link b c; rename a .ts-0; rename b a; copy b d 1; chmod b 1; rename .ts-0 b", "2 5,-,1,0 5,0 3 5,1 2", 1},
		// another path, also one that is alike by its text, or what it goes to
		{"rename a b; rename b a; link a b; copy a b 1; chmod a 1", "1,0,0,0,0", "rename a .ts-0; rename b a; link a b; copy a b 1; chmod a 1; rename .ts-0 b", "-,0,0,0,0,0 1", 1},
		{"rename a b; rename b a; link b/b c; copy bb c 1; chmod b- 1", "1,0,0,0,0", "rename a .ts-0; rename b a; link b/b c; copy bb c 1; chmod b- 1; rename .ts-0 b", "-,0,0,0,0,0 1", 1},
		{"rename a b; rename b a; link .ts-0 b; chmod .ts-0 1", "1,0,0,0", "rename a .ts-0; rename b a; link .ts-0 b; chmod .ts-0 1; rename .ts-0 b", "-,0,0,0,0 1", 1},
		// it did not need the rename
		{"rename a b; rename b a; link b c; copy b d 1; chmod b 1", "1,0,-,1,2 3", "rename a .ts-0; rename b a; link b c; copy b d 1; chmod b 1; rename .ts-0 b", "-,0,-,1,2 3,0 1", 1},
		// other kinds of action
		{"rename a b; rename b a; unlink b; rmdir b; mkdir b 1; write b 1 0; rename b c", "1,0,0,0,0,0,0", "rename a .ts-0; rename b a; unlink b; rmdir b; mkdir b 1; write b 1 0; rename b c; rename .ts-0 b", "-,0,0,0,0,0,0,0 1", 1},
		// two that went to one path: each cut for itself
		{"rename a b; rename c b; chmod b 1; chmod b 2; chmod b 3", "0,1,0,1,0 1", "rename a .ts-0; rename c .ts-1; chmod b 1; chmod b 2; chmod b 3; rename .ts-0 b; rename .ts-1 b", "-,-,5,6,5 6,0,1", 2},
		// what went round stays round by the way on, and is cut elsewhere
		{"rename a b; rename c d; chmod b 1", "1,2,0", "rename a .ts-0; rename c .ts-1; chmod b 1; rename .ts-0 b; rename .ts-1 d", "-,-,3,0 1,1 2", 2},
	}.hold(t)
}

// TestP1501Fields: what is cut keeps all but where it goes; the way on has nothing else.
func TestP1501Fields(t *testing.T) {
	for _, p := range []string{"", "/", "a/", ".ts/", ".ts-0/", "/.ts", "A/.ts", ".ts/..", "a/b/c/d/e/f/.ts", "\xff", ".ts\x00", strings.Repeat("x", 1000)} {
		acts := []api.Act{{Op: api.OpRename, Path: p, To: p, Mode: -5, Ref: 77}, {Op: api.OpChmod, Path: p, To: "x", Mode: 999, Ref: -9}}
		want := []api.Act{{Op: api.OpRename, Path: p, To: ".ts-0", Mode: -5, Ref: 77}, acts[1], {Op: api.OpRename, Path: ".ts-0", To: p}}
		told(t, strconv.Quote(p), acts, [][]int{{0}, {0}}, want, [][]int{{}, {2}, {0}}, 1)
	}
}

// plain breaks what goes round by the chapter's words.
func plain(acts []api.Act, lists [][]int) ([]api.Act, [][]int, int, api.Errno) {
	acts = slices.Clone(acts)
	var needs []map[int]bool
	for _, l := range lists {
		set := map[int]bool{}
		for _, n := range l {
			set[n] = true
		}
		needs = append(needs, set)
	}
	for cuts := 0; ; cuts++ {
		group := first(needs)
		if group == nil {
			return acts, ordered(needs), cuts, api.OK
		}
		at := slices.IndexFunc(group, func(n int) bool { return acts[n].Op == api.OpRename && !path.Kept(acts[n].Path) })
		if at < 0 {
			return nil, nil, 0, api.ErrCycle
		}
		if len(acts) == api.MaxActs {
			return nil, nil, 0, api.ErrLong
		}
		r, further, temp := group[at], len(acts), path.Temp(cuts)
		old := acts[r].To
		acts[r].To = temp
		acts = append(acts, api.Act{Op: api.OpRename, Path: temp, To: old})
		needs = append(needs, needs[r])
		needs[further][r] = true
		needs[r] = nil
		for i, a := range acts {
			if (a.Op == api.OpLink || a.Op == api.OpCopy || a.Op == api.OpChmod) && a.Path == old && needs[i][r] {
				delete(needs[i], r)
				needs[i][further] = true
			}
		}
	}
}

// first is the group that goes round with the least number, if one does.
func first(needs []map[int]bool) []int {
	reach := func(from int) map[int]bool {
		seen, open := map[int]bool{}, []int{from}
		for len(open) > 0 {
			n := open[0]
			open = open[1:]
			for next := range needs[n] {
				if !seen[next] {
					seen[next] = true
					open = append(open, next)
				}
			}
		}
		return seen
	}
	for i := range needs {
		far := reach(i)
		if !far[i] {
			continue
		}
		var group []int
		for n := range needs {
			if far[n] && reach(n)[i] {
				group = append(group, n)
			}
		}
		return group
	}
	return nil
}

// ordered are sets as rising lists.
func ordered(sets []map[int]bool) [][]int {
	var all [][]int
	for _, set := range sets {
		var list []int
		for n := range set {
			list = append(list, n)
		}
		slices.Sort(list)
		all = append(all, list)
	}
	return all
}

// agrees holds Break against plain, and tells what it answered.
func agrees(t *testing.T, acts []api.Act, needs [][]int) ([]api.Act, [][]int, int, api.Errno) {
	t.Helper()
	gotActs, gotNeeds, n, e := cut.Break(acts, needs)
	wantActs, wantNeeds, wantN, wantE := plain(acts, needs)
	if got, want := fmt.Sprint(gotActs, gotNeeds, n, e), fmt.Sprint(wantActs, wantNeeds, wantN, wantE); got != want {
		t.Fatalf("%v by %v: %s, want %s", acts, needs, got, want)
	}
	return gotActs, gotNeeds, n, e
}

// chance is actions by chance, most of them of this Op.
func chance(r *rand.Rand, count, op int) []api.Act {
	paths := []string{"a", "b", "c", "a", "b", "c", "a/b", ".ts-0", ".ts-1", ".ts"}
	var acts []api.Act
	for range count {
		a := api.Act{Op: op, Path: paths[r.Intn(len(paths))], To: paths[r.Intn(len(paths))], Mode: r.Intn(3), Ref: r.Intn(3)}
		if r.Intn(4) == 0 {
			a.Op = r.Intn(10)
		}
		acts = append(acts, a)
	}
	return acts
}

// TestP1501Chance: actions and needs by chance.
func TestP1501Chance(t *testing.T) {
	r := rand.New(rand.NewSource(151))
	met, most := map[api.Errno]int{}, 0
	for range 20000 {
		count := 1 + r.Intn(12)
		_, _, n, e := agrees(t, chance(r, count, api.OpRename), sample.Needs(r, count, 1+r.Intn(3)))
		met[e]++
		most = max(most, n)
	}
	is(t, "some are refused, some are cut, some often", met[api.ErrCycle] > 3000 && met[api.OK] > 3000 && most > 5, true)
	for range 300 {
		count := api.MaxActs - r.Intn(3)
		needs := make([][]int, count)
		for i, l := range sample.Needs(r, 12, 2) {
			for _, n := range l {
				needs[80*i] = append(needs[80*i], 80*n)
			}
		}
		_, _, _, e := agrees(t, chance(r, count, api.OpRename), needs)
		met[e]++
	}
	is(t, "some are too many", met[api.ErrLong] > 20, true)
}

// round is what goes round by needs.
func round(t *testing.T, needs [][]int) [][]int {
	t.Helper()
	list, e := comp.Round(needs)
	is(t, "Round", e, api.OK)
	return list
}

// sound holds Break of what is to be done against plain and against what follows by P1502: b has to come of a in any order. It tells how many went round, and how many were cut.
func sound(t *testing.T, r *rand.Rand, a, b api.Tree, stock [][]byte) (rounds, cuts int) {
	t.Helper()
	acts, e := diff.Acts(a, b, stock)
	is(t, "Acts", e, api.OK)
	needs, e := graph.Needs(a, acts)
	is(t, "Needs", e, api.OK)
	gotActs, gotNeeds, n, e := agrees(t, acts, needs)
	is(t, "Break", e, api.OK)
	is(t, "what goes round then", len(round(t, gotNeeds)), 0)
	is(t, "how many actions", len(gotActs), len(acts)+n)
	groups := round(t, needs)
	for _, group := range groups {
		turned := func(at int) bool { return acts[at] != gotActs[at] }
		is(t, "cut at least once", slices.ContainsFunc(group, turned), true)
	}
	var list []api.Ins
	for _, at := range sample.Line(r, gotNeeds) {
		list = append(list, gotActs[at])
	}
	is(t, "how many can be done", len(list), len(gotActs))
	got, at, e := model.Run(a, list, stock)
	if e != api.OK || !tree.Same(got, b) {
		t.Fatalf("%v to %v by %v: %v, %d, %v", a, b, list, got, at, e)
	}
	return len(groups), n
}

// TestP1502All: all small trees.
func TestP1502All(t *testing.T) {
	r := rand.New(rand.NewSource(152))
	list := sample.Small()
	stock := sample.Contents("x", "y")
	rounds := 0
	for _, a := range list {
		for _, b := range list {
			n, _ := sound(t, r, a, b, stock)
			rounds += n
		}
	}
	is(t, "some go round", rounds > 500, true)
}

// TestP1502Chance: trees grown by chance.
func TestP1502Chance(t *testing.T) {
	r := rand.New(rand.NewSource(153))
	stock := sample.Contents("yy", "", "x", "y", "xx")
	rounds := 0
	for range 4000 {
		a, b := sample.Chance(t, r), sample.Chance(t, r)
		n, _ := sound(t, r, a, b, stock)
		rounds += n
		_, n = sound(t, r, a, a, nil)
		is(t, "nothing to be done", n, 0)
	}
	is(t, "some go round", rounds > 500, true)
}

// TestP1502Twice: what goes round two ways is cut two times.
func TestP1502Twice(t *testing.T) {
	r := rand.New(rand.NewSource(154))
	for _, x := range []struct {
		a, b         string
		rounds, cuts int
	}{
		{"a=x b=y", "a=y b=x", 1, 1},
		{"d/ d/x=x", "d=x", 1, 1},
		{"a=x", "a/ a/x=x", 1, 1},
		{"d/ d/x=x d/y=y m=m", "d=m m/ m/1=x m/2=y", 1, 1},
		{"z/ z/x=x z/y=y m=m", "m/ m/1=x m/2=y z=m", 1, 2},
		{"a=x b=y c=z d/ d/d=w", "a=y b=x c/ c/c=z d=w", 3, 3},
	} {
		rounds, cuts := sound(t, r, sample.Tree(t, x.a), sample.Tree(t, x.b), nil)
		is(t, x.a+" to "+x.b+": rounds", rounds, x.rounds)
		is(t, x.a+" to "+x.b+": cuts", cuts, x.cuts)
	}
}

// names are paths of files beside the directories d and e.
func names() []string { return strings.Fields("a b c d/a d/b d/c e/a e/b f g h") }

// moved is two trees of these directories; the i-th file of both is the same one, at the i-th of these names.
func moved(t *testing.T, from, to []string) (a, b api.Tree) {
	t.Helper()
	words := func(names []string) string {
		list := "d/ e/"
		for i, p := range names {
			list += " " + p + "=" + strconv.Itoa(i)
		}
		return list
	}
	return sample.Tree(t, words(from)), sample.Tree(t, words(to))
}

// cycles counts the cycles of more than one name, by which names go to one another.
func cycles(from, to []string) int {
	count := 0
	seen := map[string]bool{}
	for _, p := range from {
		long := 0
		for !seen[p] {
			seen[p] = true
			p = to[slices.Index(from, p)]
			long++
		}
		if long > 1 {
			count++
		}
	}
	return count
}

// TestP1502Permutations: as many temporary names as cycles of more than one path.
func TestP1502Permutations(t *testing.T) {
	r := rand.New(rand.NewSource(155))
	met := map[int]int{}
	for range 2000 {
		from := names()[:1+r.Intn(len(names()))]
		var to []string
		for _, at := range r.Perm(len(from)) {
			to = append(to, from[at])
		}
		a, b := moved(t, from, to)
		rounds, cuts := sound(t, r, a, b, nil)
		is(t, fmt.Sprint(from, to, ": rounds"), rounds, cycles(from, to))
		is(t, fmt.Sprint(from, to, ": cuts"), cuts, rounds)
		met[cuts]++
	}
	is(t, "none, one, two, three", met[0] > 100 && met[1] > 100 && met[2] > 100 && met[3] > 10, true)
}

// TestP1502Once: where the directories are the same, and all files are kept that have one name each, each that goes round is cut once, whatever comes beside.
func TestP1502Once(t *testing.T) {
	r := rand.New(rand.NewSource(156))
	all := 0
	for range 3000 {
		var from, to []string
		for _, at := range r.Perm(len(names()))[:1+r.Intn(7)] {
			from = append(from, names()[at])
		}
		for _, at := range r.Perm(len(names()))[:len(from)] {
			to = append(to, names()[at])
		}
		a, b := moved(t, from, to)
		for _, p := range names() {
			if slices.Contains(to, p) || r.Intn(2) == 0 {
				continue
			}
			n := api.Node{Path: p, File: r.Intn(len(b.Files))}
			if r.Intn(2) == 0 {
				n.File = len(b.Files)
				b.Files = append(b.Files, api.File{Mode: r.Intn(2), Data: []byte("new")})
			}
			b.Nodes = append(b.Nodes, n)
		}
		b.Files[0].Mode = 1
		b, e := tree.Canon(b)
		is(t, "a right tree", e+tree.Check(b), api.OK)
		rounds, cuts := sound(t, r, a, b, sample.Contents("new"))
		is(t, fmt.Sprint(a, b, ": cuts"), cuts, rounds)
		all += cuts
	}
	is(t, "some go round", all > 200, true)
}

// TestP1502Great: as many files as may be: in one cycle, in pairs, into a directory whose name one of them has, and out of it.
func TestP1502Great(t *testing.T) {
	r := rand.New(rand.NewSource(157))
	a := sample.Flat(api.MaxNodes)
	var contents [][]byte
	for i := range a.Nodes {
		contents = append(contents, []byte(strconv.Itoa(i)))
		a.Nodes[i] = api.Node{Path: a.Nodes[i].Path, File: i}
		a.Files = append(a.Files, api.File{Data: contents[i]})
	}
	turned := func(by func(int) int) api.Tree {
		b := tree.Clone(a)
		for i := range b.Files {
			b.Files[i] = a.Files[by(i)]
		}
		return b
	}
	_, cuts := sound(t, r, a, turned(func(i int) int { return (i + 1) % api.MaxNodes }), nil)
	is(t, "one cycle", cuts, 1)
	_, cuts = sound(t, r, a, turned(func(i int) int { return i ^ 1 }), nil)
	is(t, "pairs", cuts, api.MaxNodes/2)
	dir := a.Nodes[0].Path
	b := api.Tree{Nodes: []api.Node{{Path: dir, File: -1}}, Files: a.Files[:api.MaxNodes-1]}
	for i, n := range a.Nodes[:api.MaxNodes-1] {
		b.Nodes = append(b.Nodes, api.Node{Path: dir + "/" + n.Path, File: i})
	}
	is(t, "a right tree", tree.Check(b), api.OK)
	_, cuts = sound(t, r, a, b, nil)
	is(t, "into a directory", cuts, 1)
	_, cuts = sound(t, r, b, a, contents)
	is(t, "out of a directory", cuts, 1)
}

// TestP1503Stays: what is handed in stays, also where what was answered is turned; what was answered stays where what was handed in is turned.
func TestP1503Stays(t *testing.T) {
	r := rand.New(rand.NewSource(158))
	met := map[api.Errno]int{}
	for range 2000 {
		count := r.Intn(10)
		acts := append(chance(r, count, api.OpRename), sample.Acts(t, "unlink spare; rename zz yy")...)[:count]
		needs := sample.RoomyLists(sample.Needs(r, max(count, 1), 2)[:count])
		if r.Intn(9) == 0 {
			needs = needs[:max(count-1, 0)]
		}
		wasActs, wasNeeds := slices.Clone(acts[:cap(acts)]), sample.WholeLists(needs)
		gotActs, gotNeeds, n, e := cut.Break(acts, needs)
		met[e]++
		told := fmt.Sprint(gotActs, gotNeeds, n, e)
		sample.Spoil(gotNeeds)
		clear(gotNeeds[:cap(gotNeeds)])
		clear(gotActs[:cap(gotActs)])
		if !slices.Equal(acts[:cap(acts)], wasActs) || !reflect.DeepEqual(sample.WholeLists(needs), wasNeeds) {
			t.Fatalf("%v by %v, was %v by %v", acts, needs, wasActs, wasNeeds)
		}
		gotActs, gotNeeds, n, e = cut.Break(acts, needs)
		is(t, "told anew", fmt.Sprint(gotActs, gotNeeds, n, e), told)
		sample.Spoil(needs)
		clear(needs)
		clear(acts)
		is(t, "what was told", fmt.Sprint(gotActs, gotNeeds, n, e), told)
	}
	is(t, "some are refused, some are not", met[api.OK] > 300 && met[api.ErrCycle] > 300 && met[api.ErrArg] > 30, true)
}

// TestP1503Own: no two lists of an answer have memory together.
func TestP1503Own(t *testing.T) {
	acts := sample.Acts(t, "rename a b; rename b a; chmod b 1; rename c d; link d e; rename d c; unlink x")
	needs := sample.Lists(t, "1 6,0 6,0 3 6,5,3 6,3 6,-")
	wantActs, wantNeeds, n, e := cut.Break(acts, needs)
	is(t, "Break", fmt.Sprint(wantNeeds, n, e), "[[] [0 6] [3 6 7] [] [6 8] [3 6] [] [0 1 6] [3 5]] 2 0")
	for i := range wantNeeds {
		gotActs, got, _, _ := cut.Break(acts, needs)
		_ = append(got[i], 7, 7, 7)
		sample.Spoil(got[i : i+1])
		for j := range got {
			if j != i {
				is(t, "another list", fmt.Sprint(got[j]), fmt.Sprint(wantNeeds[j]))
			}
		}
		is(t, "the actions", fmt.Sprint(gotActs), fmt.Sprint(wantActs))
	}
}

// TestTogether: calls at one time hinder one another in nothing.
func TestTogether(t *testing.T) {
	acts, needs := sample.Acts(t, "rename a b; rename b a; chmod b 1"), sample.Lists(t, "1,0,0")
	var wait sync.WaitGroup
	for range 8 {
		wait.Go(func() {
			for range 200 {
				if _, got, n, e := cut.Break(acts, needs); e != api.OK || fmt.Sprint(got, n) != "[[] [0] [3] [0 1]] 1" {
					t.Errorf("%v, %d, %v", got, n, e)
				}
			}
		})
	}
	wait.Wait()
}

func TestExamples(t *testing.T) {
	a, b := sample.Tree(t, "a=x d/ d/y=y"), sample.Tree(t, "a/:448 a/x=x:384 b=n c>b")
	acts, e := diff.Acts(a, b, sample.Contents("n"))
	is(t, "Acts", e, api.OK)
	needs, e := graph.Needs(a, acts)
	is(t, "Needs", e, api.OK)
	want := sample.Acts(t, "unlink d/y; rmdir d; mkdir a 448; rename a .ts-0; write b 420 0; link b c; chmod a/x 384; rename .ts-0 a/x")
	told(t, "chapter 13's", acts, needs, want, sample.Lists(t, "-,0,3,-,-,4,7,2 3"), 1)
	rows{
		{"rename a b; rename b a", "1,0", "rename a .ts-0; rename b a; rename .ts-0 b", "-,0,0 1", 1},
		{"rename b a; rename a b", "1,0", "rename b .ts-0; rename a b; rename .ts-0 a", "-,0,0 1", 1},
		{"rmdir d; rename d/x d", "1,0", "rmdir d; rename d/x .ts-0; rename .ts-0 d", "1,-,0 1", 1},
	}.hold(t)
}
