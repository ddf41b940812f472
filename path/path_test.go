package path

import (
	"math"
	"regexp"
	"slices"
	"strconv"
	"strings"
	"testing"

	"shunt/api"
)

// is holds what a call answered against what it should have.
func is[T comparable](t *testing.T, what string, got, want T) {
	t.Helper()
	if got != want {
		t.Errorf("%s: %v, want %v", what, got, want)
	}
}

// path is a number of names of so many bytes each.
func path(names, bytes int) string {
	return strings.TrimSuffix(strings.Repeat(strings.Repeat("a", bytes)+"/", names), "/")
}

// right are paths, with their names.
func right() map[string][]string {
	full := path(1, api.MaxName)
	return map[string][]string{
		"a": {"a"}, "0": {"0"}, "-": {"-"}, "_": {"_"}, "...": {"..."}, "....": {"...."}, ".a": {".a"}, "a.": {"a."}, "..a": {"..a"}, "a..": {"a.."}, ".-": {".-"},
		"z9": {"z9"}, "az09._-": {"az09._-"}, "a/b.c": {"a", "b.c"}, "a/bc": {"a", "bc"}, "a/a": {"a", "a"}, "ab/a/b": {"ab", "a", "b"}, ".../...": {"...", "..."},
		"-/_": {"-", "_"}, ".ts": {".ts"}, ".ts-1": {".ts-1"}, "a/.tsx": {"a", ".tsx"}, "a/b/c/d/e/f": {"a", "b", "c", "d", "e", "f"}, "1/22/333/4444/55555": {"1", "22", "333", "4444", "55555"},
		full: {full}, "a/" + full: {"a", full}, full + "/a": {full, "a"}, path(api.MaxDepth, api.MaxName): {full, full, full, full, full, full},
	}
}

// wrong are texts that are no paths.
func wrong() []string {
	list := []string{
		"", "/", "//", "///", "/a", "a/", "a//b", "//a", "a//", "/a/", "a/b/", "/a/b", "a/b//c",
		".", "..", "./a", "../a", "a/.", "a/..", "a/./b", "a/../b", "./..",
		"A", "Z", "aB", "a/B", "a b", " a", "a ", "a/ ", " ", "a\n", "\na", "a\x00", "\x00", "a\\b", "a:b", "a`", "{a", "a@", "a/b[c", "a,b", "a+b", "*", "~", "\x7f",
		"\x80", "a\xff", "\xe1", "a/\xed\xa0\x80", "\xc1\xa1", "\u00e4", "\u0161", "a\u0161", "\u0161/a", "\U00010061", "\u2024", "\u2215", "\ufffd", "\uff41", "a\u0301",
		path(7, 1), "a/b/c/d/e/f/g", path(6, 1) + "/", "/" + path(6, 1), path(6, 1) + "/.", path(100000, 1),
		path(1, 15), path(6, 15), "a/" + path(1, 15), path(1, 15) + "/a", path(5, 14) + "/" + path(1, 15), path(7, 14), path(1, 1000000), strings.Repeat("/", 1000000),
		path(1, 13) + "\u0161", strings.Repeat("\u0161", 7), path(1, 13) + "/\xff",
	}
	for b := range 256 {
		if b != '/' && !strings.Contains("abcdefghijklmnopqrstuvwxyz0123456789._-", string(rune(b))) {
			list = append(list, "a"+string([]byte{byte(b)}), string([]byte{byte(b)})+"a", "a/b"+string([]byte{byte(b)})+"c")
		}
	}
	return list
}

// all are the texts of at most so many of these bytes.
func all(bytes string, most int) []string {
	list, from := []string{""}, 0
	for range most {
		to := len(list)
		for _, p := range list[from:to] {
			for i := range len(bytes) {
				list = append(list, p+bytes[i:i+1])
			}
		}
		from = to
	}
	return list
}

var name = regexp.MustCompile(`^[a-z0-9._-]{1,14}$`)

// namesOf tells a path's names by other means than the package's.
func namesOf(p string) []string {
	list := strings.Split(p, "/")
	for _, n := range list {
		if !name.MatchString(n) || n == "." || n == ".." || len(list) > 6 {
			return nil
		}
	}
	return list
}

// agrees holds all that is told of p against its names, none of which says that it is no path.
func agrees(t *testing.T, p string, names []string) {
	t.Helper()
	parent, base, kept := "", "", false
	for _, n := range names {
		kept = kept || strings.HasPrefix(n, ".ts")
	}
	if last := len(names) - 1; last >= 0 {
		parent, base = strings.Join(names[:last], "/"), names[last]
	}
	p4 := strconv.QuoteToASCII(p[:min(len(p), 100)])
	is(t, "Valid "+p4, Valid(p), len(names) > 0)
	is(t, "Parent "+p4, Parent(p), parent)
	is(t, "Base "+p4, Base(p), base)
	is(t, "Kept "+p4, Kept(p), kept)
	if got := Names(p); !slices.Equal(got, names) {
		t.Errorf("Names %s: %q, want %q", p4, got, names)
	}
}

func TestP501Valid(t *testing.T) {
	for p := range right() {
		is(t, strconv.Quote(p), Valid(p), true)
	}
	for _, p := range wrong() {
		is(t, strconv.QuoteToASCII(p[:min(len(p), 100)]), Valid(p), false)
	}
	for b := range 256 {
		p := string([]byte{byte(b)})
		is(t, strconv.QuoteToASCII(p), Valid("a"+p+"a"), strings.Contains("abcdefghijklmnopqrstuvwxyz0123456789._-/", p))
	}
}

func TestP501Limits(t *testing.T) {
	for names := range 10 {
		for bytes := range 20 {
			p := path(names, bytes)
			is(t, strconv.Quote(p), Valid(p), names > 0 && names <= 6 && bytes > 0 && bytes <= 14)
		}
	}
}

func TestP502Names(t *testing.T) {
	for p, names := range right() {
		agrees(t, p, names)
	}
}

func TestP502NoPath(t *testing.T) {
	for _, p := range wrong() {
		agrees(t, p, nil)
	}
	for _, p := range []string{".ts/", "/.ts", ".ts//a", "A/.ts", ".ts/A", path(6, 1) + "/.ts", ".ts/" + path(6, 1), ".ts" + path(1, 12), ".ts/..", ".ts\x00"} {
		agrees(t, p, nil)
	}
}

// TestP502All holds all short texts against what their names, split by other means, say.
func TestP502All(t *testing.T) {
	for _, p := range append(all("a./", 9), all(".tsA/-", 6)...) {
		agrees(t, p, namesOf(p))
		if t.Failed() {
			return
		}
	}
}

func TestP503Under(t *testing.T) {
	most := path(6, 14)
	for _, x := range []struct {
		p, q string
		want bool
	}{
		{"a", "a/b", true}, {"a", "a/b/c", true}, {"a/b", "a/b/c", true}, {"a", "a/b/c/d/e/f", true}, {"a/b/c/d/e", "a/b/c/d/e/f", true},
		{"a", "ab", false}, {"a", "ab/c", false}, {"a", "a.b", false}, {"a", "a-/b", false}, {"a/b", "a/bc", false}, {"a/b", "a/bc/d", false}, {"b", "a/b", false}, {"b", "a/b/c", false},
		{"a/b", "a", false}, {"a/b", "a/b", false}, {"a/b", "a/c", false}, {"a", "a", false}, {"a", "b", false}, {"a", "b/a", false}, {"a", "a/a", true}, {"a/a", "a/a/a", true}, {"a/a", "a", false},
		{"", "a", true}, {"", "a/b", true}, {"", most, true}, {"", ".ts-1", true}, {"", "", false}, {"a", "", false},
		{"", "/", false}, {"", "/a", false}, {"", "a/", false}, {"", "A", false}, {"", "a/b/c/d/e/f/g", false}, {"", "..", false},
		{"a", "a/", false}, {"a", "a//", false}, {"a", "a//b", false}, {"a", "a/B", false}, {"a", "a/..", false}, {"a", "a/b/", false}, {"a", "a/b/c/d/e/f/g", false}, {"a", "a/" + path(1, 15), false},
		{"a/", "a/b", false}, {"a/", "a//b", false}, {"/", "/a", false}, {"/", "//a", false}, {"A", "A/b", false}, {"..", "../a", false}, {".", "./a", false}, {"/a", "/a/b", false}, {"a/b/c/d/e/f", "a/b/c/d/e/f/g", false},
		{path(5, 14), most, true}, {path(1, 14), most, true}, {path(1, 13), most, false}, {most, most, false}, {".ts", ".ts/a", true}, {".ts", ".ts-/a", false}, {"...", ".../...", true},
	} {
		is(t, strconv.Quote(x.p)+" "+strconv.Quote(x.q), Under(x.p, x.q), x.want)
	}
}

// TestP503All holds all pairs of short texts against what Parent tells again and again.
func TestP503All(t *testing.T) {
	list := all("a.B/", 5)
	for _, q := range list {
		above, up := map[string]bool{}, q
		for range api.MaxDepth {
			if Valid(up) {
				up = Parent(up)
				above[up] = true
			}
		}
		for _, p := range list {
			if Under(p, q) != above[p] {
				t.Fatalf("Under(%q, %q): %v", p, q, !above[p])
			}
		}
	}
}

func TestP504Kept(t *testing.T) {
	for p, want := range map[string]bool{
		".ts": true, ".ts-1": true, ".tsx": true, ".ts.": true, ".ts-journal": true, ".ts/a": true, "a/.ts": true, "a/.tsx": true, "a/.ts-0/b": true, "a/b/c/d/e/.ts": true, ".ts" + path(1, 11): true,
		"ts": false, "a": false, ".t": false, ".t/s": false, "..ts": false, "a.ts": false, "a/b.ts": false, "a/ts": false, "a/.t/s": false, "-.ts": false, ".st": false, ".t.s": false, "a/..ts": false,
		"": false, "/.ts": false, ".ts/": false, ".Ts": false, ".TS": false, ".ts" + path(1, 12): false, ".ts/.": false, "a//.ts": false, "a/b/c/d/e/f/.ts": false, ".ts/a/b/c/d/e/f": false, ".ts\xff": false,
	} {
		is(t, strconv.QuoteToASCII(p), Kept(p), want)
	}
}

func TestP505Temp(t *testing.T) {
	seen := map[string]bool{}
	for k := range 10000 {
		p := Temp(k)
		is(t, strconv.Itoa(k), p, ".ts-"+strconv.Itoa(k))
		is(t, p, Valid(p) && Kept(p) && !seen[p], true)
		seen[p] = true
	}
	for _, k := range []int{-1, -9, 10000, 10001, 99999, math.MaxInt, math.MinInt, math.MaxInt32, 1 << 32, 1<<32 + 7, -1 << 32} {
		is(t, strconv.Itoa(k), Temp(k), "")
	}
}

func TestP505Journal(t *testing.T) {
	is(t, "Journal", Journal(), ".ts-journal")
	is(t, "a path of the root that is kept", Valid(Journal()) && Kept(Journal()) && Parent(Journal()) == "", true)
}

// TestP506Alone asks all calls twice, others in between, turning what was answered.
func TestP506Alone(t *testing.T) {
	for range 2 {
		for p, names := range right() {
			agrees(t, p, names)
			clear(Names(p))
			agrees(t, p, names)
		}
		for _, p := range wrong() {
			agrees(t, p, nil)
		}
		is(t, "Temp", Temp(12), ".ts-12")
		is(t, "Temp", Temp(-1), "")
		is(t, "Journal", Journal(), ".ts-journal")
	}
}

func TestExamples(t *testing.T) {
	is(t, "Valid", Valid("a/b.c"), true)
	for _, p := range []string{"a//b", "/a", "a/", "..", "A", "a/b/c/d/e/f/g"} {
		is(t, p, Valid(p), false)
	}
	if got := Names("a/bc"); !slices.Equal(got, []string{"a", "bc"}) {
		t.Errorf("Names: %q", got)
	}
	is(t, "Parent", Parent("a/bc"), "a")
	is(t, "Base", Base("a/bc"), "bc")
	is(t, "Parent", Parent("a"), "")
	is(t, "Under", Under("a", "a/b"), true)
	is(t, "Under", Under("a", "ab"), false)
	is(t, "Under", Under("", "a"), true)
	is(t, "Under", Under("a", "a"), false)
	is(t, "Kept", Kept(".ts-1"), true)
	is(t, "Kept", Kept("a/.tsx"), true)
	is(t, "Kept", Kept("ts"), false)
	is(t, "Temp", Temp(12), ".ts-12")
	is(t, "Temp", Temp(-1), "")
}
