package stock

import (
	"bytes"
	"crypto/sha256"
	"math"
	"slices"
	"strings"
	"testing"

	"shunt/api"
)

func made(t *testing.T, limit int) *Stock {
	t.Helper()
	s, e := New(limit)
	if s == nil || e != api.OK {
		t.Fatalf("New(%d): %v, %v", limit, s, e)
	}
	return s
}

// is holds what a call answered against what it should have.
func is[T comparable](t *testing.T, what string, got, want T) {
	t.Helper()
	if got != want {
		t.Errorf("%s: %v, want %v", what, got, want)
	}
}

// add wants a content to come to a place.
func add(t *testing.T, s *Stock, b string, want int) {
	t.Helper()
	if at, e := s.Add([]byte(b)); at != want || e != api.OK {
		t.Errorf("Add(%.20q of %d): %d, %v, want %d", b, len(b), at, e, want)
	}
}

// refuses wants a content to be refused.
func refuses(t *testing.T, s *Stock, b string, want api.Errno) {
	t.Helper()
	if at, e := s.Add([]byte(b)); at != 0 || e != want {
		t.Errorf("Add(%.20q of %d): %d, %v, want 0, %v", b, len(b), at, e, want)
	}
}

// has wants just these contents, by all calls that tell them.
func has(t *testing.T, what string, s *Stock, want ...string) {
	t.Helper()
	is(t, what+": Len", s.Len(), len(want))
	is(t, what+": Size", s.Size(), len(strings.Join(want, "")))
	all := s.All()
	is(t, what+": how many All tells", len(all), len(want))
	for at, b := range want {
		got, e := s.Get(at)
		if string(got) != b || e != api.OK {
			t.Errorf("%s: Get(%d): %.20q, %v, want %.20q", what, at, got, e, b)
		}
		if at < len(all) && string(all[at]) != b {
			t.Errorf("%s: All: %.20q at %d, want %.20q", what, all[at], at, b)
		}
		is(t, what+": Find", s.Find([]byte(b)), at)
	}
	for _, at := range []int{-1, len(want), len(want) + 1, math.MinInt, math.MaxInt} {
		if b, e := s.Get(at); b != nil || e != api.ErrMissing {
			t.Errorf("%s: Get(%d): %.20q, %v", what, at, b, e)
		}
	}
}

// full is a content of so many bytes that begins with n.
func full(n byte, size int) string {
	return string(n) + strings.Repeat("x", size-1)
}

func TestP1001New(t *testing.T) {
	for _, limit := range []int{0, 1, 77, api.MaxData, api.MaxStock - 1, api.MaxStock} {
		has(t, "new", made(t, limit))
	}
	for _, limit := range []int{-1, -2, api.MaxStock + 1, math.MinInt, math.MaxInt} {
		if s, e := New(limit); s != nil || e != api.ErrArg {
			t.Errorf("New(%d): %v, %v", limit, s, e)
		}
	}
}

func TestP1001Add(t *testing.T) {
	s := made(t, 100)
	list := []string{"b", "a", "ab", "", "aa", "\x00", "\x00\x00", "\xff", "A", "b\x00", "é", "e\xcc\x81"}
	for round := range 3 {
		for at, b := range list {
			add(t, s, b, at)
			if round == 0 {
				has(t, "behind it", s, list[:at+1]...)
			}
		}
		has(t, "behind a round", s, list...)
	}
}

// TestP1001NoBytes: a content of no bytes is one as others are, and fits wherever it is.
func TestP1001NoBytes(t *testing.T) {
	s := made(t, 0)
	is(t, "Find", s.Find(nil), -1)
	refuses(t, s, "a", api.ErrSpace)
	add(t, s, "", 0)
	add(t, s, "", 0)
	at, e := s.Add(nil)
	is(t, "Add(nil)", at, 0)
	is(t, "Add(nil)", e, api.OK)
	is(t, "Find(nil)", s.Find(nil), 0)
	has(t, "no bytes", s, "")
	s = made(t, 1)
	add(t, s, "a", 0)
	add(t, s, "", 1)
	has(t, "no bytes, in a full stock", s, "a", "")
}

func TestP1001Limit(t *testing.T) {
	for limit := range 12 {
		s := made(t, limit)
		var in []string
		left := limit
		for n := range byte(10) {
			size := 1 + int(n)%4
			b := full('a'+n, size)
			if size > left {
				refuses(t, s, b, api.ErrSpace)
				is(t, "Find of what was refused", s.Find([]byte(b)), -1)
			} else {
				add(t, s, b, len(in))
				in = append(in, b)
				left -= size
			}
			has(t, "limited", s, in...)
		}
		for at, b := range in { // also where there is no room for it once more
			add(t, s, b, at)
		}
		has(t, "limited", s, in...)
	}
}

func TestP1001Long(t *testing.T) {
	s := made(t, api.MaxStock)
	var in []string
	for n := range byte(api.MaxStock / api.MaxData) {
		for _, size := range []int{api.MaxData + 1, api.MaxData + 2, api.MaxStock, 3 * api.MaxStock} {
			refuses(t, s, full(n, size), api.ErrLong)
		}
		has(t, "refused", s, in...)
		add(t, s, full(n, api.MaxData), int(n))
		in = append(in, full(n, api.MaxData))
	}
	has(t, "full", s, in...)
	refuses(t, s, full(0, api.MaxData+1), api.ErrLong) // ahead of ErrSpace
	refuses(t, s, full(99, api.MaxData), api.ErrSpace)
	refuses(t, s, "z", api.ErrSpace)
	add(t, s, in[3], 3)
	add(t, s, "", len(in))
	has(t, "full", s, append(in, "")...)
	s = made(t, 0)
	refuses(t, s, full(0, api.MaxData+1), api.ErrLong)
	refuses(t, s, full(0, api.MaxData), api.ErrSpace)
	has(t, "without room", s)
}

// TestP1001Many: as many short contents as there is room for.
func TestP1001Many(t *testing.T) {
	s := made(t, api.MaxStock)
	var in []string
	left := api.MaxStock
	for n := 0; left > 0; n++ {
		b := string([]byte{byte(n), byte(n >> 8)}[:1+min(1, n>>8)])
		add(t, s, b, n)
		in = append(in, b)
		left -= len(b)
	}
	has(t, "many", s, in...)
	refuses(t, s, "abc", api.ErrSpace)
}

func TestP1002Get(t *testing.T) {
	s := made(t, 1000)
	has(t, "new", s)
	for _, b := range []string{"", "x", full('y', 600)} {
		add(t, s, b, s.Len())
	}
	has(t, "three", s, "", "x", full('y', 600))
}

func TestP1002Find(t *testing.T) {
	s := made(t, 1000)
	add(t, s, "ab", 0)
	add(t, s, "c", 1)
	add(t, s, "abcd", 2)
	for _, b := range []string{"", "a", "b", "bc", "abc", "d", "abcde", "AB", "cab", "ab\x00", full('a', api.MaxData+1)} {
		is(t, "Find "+b[:min(9, len(b))], s.Find([]byte(b)), -1)
	}
	is(t, "Find(nil)", s.Find(nil), -1)
	has(t, "found", s, "ab", "c", "abcd")
}

// TestP1002Parts: where a content ends counts, not what all of them are together.
func TestP1002Parts(t *testing.T) {
	const all = "abcdef"
	for i := range len(all) + 1 {
		for j := i; j <= len(all); j++ {
			s := made(t, len(all))
			var want []string
			for _, b := range []string{all[:i], all[i:j], all[j:]} {
				if !slices.Contains(want, b) {
					add(t, s, b, len(want))
					want = append(want, b)
				}
			}
			has(t, "parts", s, want...)
		}
	}
}

func lists(count, size int) [][]byte {
	l := make([][]byte, count)
	for i := range l {
		l[i] = bytes.Repeat([]byte{7}, size)
	}
	return l
}

func TestP1003Check(t *testing.T) {
	one := func(sizes ...int) [][]byte {
		var l [][]byte
		for _, size := range sizes {
			l = append(l, make([]byte, size))
		}
		return l
	}
	for i, x := range []struct {
		l    [][]byte
		want api.Errno
	}{
		{nil, api.OK},
		{[][]byte{}, api.OK},
		{[][]byte{nil, {}, nil}, api.OK},
		{one(1, 1, 2), api.OK},
		{lists(65535, 0), api.OK},
		{lists(65536, 0), api.ErrLong},
		{lists(65535, 1), api.OK},
		{lists(65536, 1), api.ErrLong},
		{lists(70000, 0), api.ErrLong},
		{one(api.MaxData), api.OK},
		{one(api.MaxData + 1), api.ErrLong},
		{one(3, api.MaxData+1), api.ErrLong},
		{one(api.MaxData+1, 3), api.ErrLong},
		{one(4 * api.MaxStock), api.ErrLong},
		{lists(8, api.MaxData), api.OK},
		{append(lists(8, api.MaxData), nil), api.OK},
		{append(lists(8, api.MaxData), []byte{1}), api.ErrLong},
		{append(one(1), lists(8, api.MaxData)...), api.ErrLong},
		{append(lists(7, api.MaxData), one(api.MaxData-1, 1)...), api.OK},
		{append(lists(7, api.MaxData), one(api.MaxData-1, 1, 1)...), api.ErrLong},
		{append(lists(8, api.MaxData), one(api.MaxData+1)...), api.ErrLong},
		{lists(32768, 2), api.OK},
		{lists(32769, 2), api.ErrLong},
	} {
		is(t, "Check", Check(x.l), x.want)
		sums, e := Sums(x.l)
		is(t, "Sums", e, x.want)
		want := len(x.l)
		if x.want != api.OK {
			want = 0
		}
		is(t, "how many Sums tells", len(sums), want)
		if t.Failed() {
			t.Fatalf("list %d", i)
		}
	}
}

func TestP1003Sums(t *testing.T) {
	l := [][]byte{[]byte("abc"), nil, []byte("de"), []byte("abc"), {}, []byte(full('x', api.MaxData))}
	sums, e := Sums(l)
	is(t, "Sums", e, api.OK)
	is(t, "how many", len(sums), len(l))
	for i, b := range l {
		is(t, "Sums", sums[i], api.Digest(sha256.Sum256(b)))
	}
}

func TestP1004HandedIn(t *testing.T) {
	s := made(t, 100)
	room := []byte("contents and more")
	b := room[:8]
	add(t, s, "ahead", 0)
	at, e := s.Add(b)
	is(t, "Add", at, 1)
	is(t, "Add", e, api.OK)
	is(t, "Find", s.Find(b), 1)
	add(t, s, "behind", 2)
	is(t, "what was handed in, with its room", string(room), "contents and more")
	clear(room)
	has(t, "not kept", s, "ahead", "contents", "behind")
	is(t, "Find of what it is now", s.Find(b), -1)
	room = []byte("abcdefgh")
	l := [][]byte{room[:1], room[1:3], room[3:4], room[5:5], nil}
	Check(l[:3])
	sums, _ := Sums(l[:3])
	is(t, "what was handed in, with its room", string(room), "abcdefgh")
	for i, want := range []string{"a", "bc", "d", "", ""} {
		is(t, "what was handed in", string(l[i]), want)
	}
	clear(room)
	is(t, "a digest", sums[1], api.Digest(sha256.Sum256([]byte("bc"))))
}

// spoil turns each byte of a list and of its spare room, and puts some behind.
func spoil(b []byte) {
	_ = append(b, "!!!!!!!!!!!!!!!!"...)
	b = b[:cap(b)]
	for i := range b {
		b[i] ^= 255
	}
}

func TestP1004Answers(t *testing.T) {
	want := []string{"one", "", "three", full('4', 100), "five"}
	s := made(t, 1000)
	for at, b := range want {
		add(t, s, b, at)
	}
	for at, b := range want {
		got, _ := s.Get(at)
		other, _ := s.Get(at)
		all := s.All()
		spoil(got)
		is(t, "another answer of Get", string(other), b)
		is(t, "an answer of All", string(all[at]), b)
		spoil(all[at])
		for i, c := range want {
			if i != at {
				is(t, "another list of that answer", string(all[i]), c)
			}
		}
		clear(all)
		_ = append(all[:0], []byte("?"))
		has(t, "spoilt", s, want...)
	}
	all := s.All()
	add(t, s, "six", 5)
	is(t, "what All told stays", len(all), 5)
	for at, b := range want {
		spoil(all[at])
		is(t, "Find", s.Find([]byte(b)), at)
	}
	has(t, "spoilt, and one more", s, append(want, "six")...)
	first, _ := Sums(all)
	second, _ := Sums(all)
	is(t, "two answers of Sums", first[0], second[0])
	clear(first)
	is(t, "the other one's", second[0], api.Digest(sha256.Sum256(all[0])))
}

func TestP1004Apart(t *testing.T) {
	a, b := made(t, 6), made(t, 9)
	add(t, a, "abc", 0)
	has(t, "the other one", b)
	add(t, b, "de", 0)
	add(t, b, "abc", 1)
	add(t, a, "de", 1)
	refuses(t, a, "fg", api.ErrSpace)
	add(t, b, "fg", 2)
	has(t, "one", a, "abc", "de")
	has(t, "the other one", b, "de", "abc", "fg")
	is(t, "Find", a.Find([]byte("fg")), -1)
}

// TestNoStock: no call panics, also of a stock that is none.
func TestNoStock(t *testing.T) {
	var s *Stock
	has(t, "nil", s)
	refuses(t, s, "", api.ErrSpace)
	refuses(t, s, "a", api.ErrSpace)
	refuses(t, s, full('a', api.MaxData+1), api.ErrLong)
	is(t, "Find", s.Find(nil), -1)
	s = &Stock{}
	has(t, "zero", s)
	refuses(t, s, "a", api.ErrSpace)
	add(t, s, "", 0)
	has(t, "zero", s, "")
}

func TestExamples(t *testing.T) {
	s := made(t, 5)
	add(t, s, "abc", 0)
	add(t, s, "de", 1)
	add(t, s, "abc", 0)
	refuses(t, s, "f", api.ErrSpace)
	add(t, s, "", 2)
	is(t, "Find", s.Find([]byte("de")), 1)
	is(t, "Size", s.Size(), 5)
	b, e := s.Get(3)
	is(t, "Get", len(b), 0)
	is(t, "Get", e, api.ErrMissing)
}

// plain is a stock as the chapter's words tell it, without anything clever.
type plain struct {
	limit int
	list  []string
}

func (p *plain) add(b string) (int, api.Errno) {
	switch at := slices.Index(p.list, b); {
	case len(b) > api.MaxData:
		return 0, api.ErrLong
	case at >= 0:
		return at, api.OK
	case len(strings.Join(p.list, ""))+len(b) > p.limit:
		return 0, api.ErrSpace
	}
	p.list = append(p.list, b)
	return len(p.list) - 1, api.OK
}

// TestLikePlain tells a stock and a plain one the same long rows of calls.
func TestLikePlain(t *testing.T) {
	seed := uint32(1)
	next := func(n int) int {
		seed = seed*1664525 + 1013904223
		return int(seed>>8) % n
	}
	for range 60 {
		limit := next(200)
		s, p := made(t, limit), &plain{limit: limit}
		for range 150 {
			b := make([]byte, next(6)+max(0, next(40)-37)*api.MaxData)
			for i := range b {
				b[i] = byte(next(3))
			}
			is(t, "Find", s.Find(b), slices.Index(p.list, string(b)))
			at, e := s.Add(b)
			wantAt, wantE := p.add(string(b))
			is(t, "Add", at, wantAt)
			is(t, "Add", e, wantE)
		}
		has(t, "like plain", s, p.list...)
		if t.Failed() {
			return
		}
	}
}
