package toll

import (
	"math"
	"slices"
	"testing"

	"shunt/api"
)

const most40 = api.MaxCount

var minus = math.Copysign(0, -1)

// wrong are numbers that are no tolls.
func wrong() []complex128 {
	return []complex128{
		0.5, -0.5, 0.5i, 1 - 0.25i, complex(1e-300, 0), complex(0, math.SmallestNonzeroFloat64),
		complex(most40+1, 0), complex(-most40-1, 0), complex(0, most40+1), complex(0, -most40-1),
		complex(most40-0.5, 0), complex(most40+0.5, 0), complex(0, -most40-0.5), 1 << 60, complex(0, math.MaxFloat64),
		complex(math.NaN(), 0), complex(0, math.NaN()), complex(math.NaN(), math.NaN()),
		complex(math.Inf(1), 0), complex(math.Inf(-1), 1), complex(0, math.Inf(1)), complex(2, math.Inf(-1)),
	}
}

// some are tolls: the ends of the range, noughts of both signs, and all with small parts.
func some() []complex128 {
	l := []complex128{
		complex(most40, most40), complex(-most40, -most40), complex(most40, -most40), complex(most40-1, 7), complex(-3, 1-most40),
		complex(minus, minus), complex(minus, 0), complex(0, minus), complex(5, minus), complex(minus, -5),
	}
	for a := range 7 {
		for b := range 7 {
			l = append(l, complex(float64(a-3), float64(b-3)))
		}
	}
	return l
}

// shown says where a nought below 0 is in an answer.
func shown(x complex128) bool {
	return real(x) == 0 && math.Signbit(real(x)) || imag(x) == 0 && math.Signbit(imag(x))
}

func want(t *testing.T, what string, got complex128, e api.Errno, x complex128, f api.Errno) {
	t.Helper()
	if got != x || e != f || shown(got) {
		t.Errorf("%s: %v, %v; want %v, %v", what, got, e, x, f)
	}
}

// whatIs is how a toll of these parts is to be answered: by whole numbers alone.
func whatIs(blocks, inodes int) (complex128, api.Errno) {
	if max(blocks, -blocks) > most40 || max(inodes, -inodes) > most40 {
		return 0, api.ErrToll
	}
	return complex(float64(blocks), float64(inodes)), api.OK
}

func parts(x complex128) (int, int) { return int(real(x)), int(imag(x)) }

func TestP101Make(t *testing.T) {
	for _, n := range [][2]int{{0, 0}, {3, 1}, {-3, 1}, {7, -9}, {most40, -most40}, {-most40, most40}, {most40 - 1, 1 - most40}} {
		x, e := Make(n[0], n[1])
		want(t, "Make", x, e, complex(float64(n[0]), float64(n[1])), api.OK)
	}
	for _, n := range []int{most40 + 1, -most40 - 1, 1 << 53, math.MaxInt, math.MinInt} {
		x, e := Make(n, 0)
		want(t, "Make, blocks", x, e, 0, api.ErrToll)
		x, e = Make(0, n)
		want(t, "Make, inodes", x, e, 0, api.ErrToll)
		x, e = Make(n, n)
		want(t, "Make, both", x, e, 0, api.ErrToll)
	}
}

func TestP101Parts(t *testing.T) {
	for _, x := range some() {
		b, i, e := Parts(x)
		if float64(b) != real(x) || float64(i) != imag(x) || e != api.OK {
			t.Errorf("Parts(%v): %d, %d, %v", x, b, i, e)
		}
		y, e := Make(b, i)
		want(t, "Make of Parts", y, e, x, api.OK)
	}
	for _, x := range wrong() {
		if b, i, e := Parts(x); b != 0 || i != 0 || e != api.ErrToll {
			t.Errorf("Parts(%v): %d, %d, %v", x, b, i, e)
		}
	}
}

func TestP102Wrong(t *testing.T) {
	type pair struct {
		name string
		f    func(a, b complex128) (complex128, api.Errno)
	}
	truth := func(f func(a, b complex128) (bool, api.Errno)) func(a, b complex128) (complex128, api.Errno) {
		return func(a, b complex128) (complex128, api.Errno) {
			is, e := f(a, b)
			if is {
				return 1, e
			}
			return 0, e
		}
	}
	pairs := []pair{
		{"Add", Add}, {"Sub", Sub}, {"Most", Most}, {"Least", Least}, {"Fits", truth(Fits)}, {"Less", truth(Less)},
		{"Peak", func(a, b complex128) (complex128, api.Errno) { return Peak(a, []complex128{0, b, 0}) }},
		{"Sum", func(a, b complex128) (complex128, api.Errno) { return Sum([]complex128{a, 1, b}) }},
	}
	for _, x := range wrong() {
		for _, p := range pairs {
			for _, y := range []complex128{0, 1, complex(most40, most40), x} {
				got, e := p.f(x, y)
				want(t, p.name+", first", got, e, 0, api.ErrToll)
				got, e = p.f(y, x)
				want(t, p.name+", second", got, e, 0, api.ErrToll)
			}
		}
		for _, n := range []int{0, 1, 4, -1, math.MinInt} {
			got, e := Times(x, n)
			want(t, "Times", got, e, 0, api.ErrToll)
			got, e = Turn(x, n)
			want(t, "Turn", got, e, 0, api.ErrToll)
		}
		got, e := Swap(x)
		want(t, "Swap", got, e, 0, api.ErrToll)
		got, e = Peak(x, nil)
		want(t, "Peak, start", got, e, 0, api.ErrToll)
	}
}

func TestP102Long(t *testing.T) {
	full := make([]complex128, api.MaxActs)
	for i := range full {
		full[i] = 1 + 2i
	}
	x, e := Sum(full)
	want(t, "Sum, as long as may be", x, e, 1024+2048i, api.OK)
	x, e = Peak(1i, full)
	want(t, "Peak, as long as may be", x, e, 1024+2049i, api.OK)
	for _, more := range []complex128{0, 0.5, complex(math.NaN(), 0), complex(most40, most40)} {
		long := append(slices.Clone(full), more)
		x, e = Sum(long)
		want(t, "Sum, too long", x, e, 0, api.ErrLong)
		x, e = Peak(0, long)
		want(t, "Peak, too long", x, e, 0, api.ErrLong)
		x, e = Peak(0.5, long)
		want(t, "Peak, too long, start none", x, e, 0, api.ErrToll)
	}
}

func TestP102OnTheWay(t *testing.T) {
	far := complex(most40, 0)
	deep := complex(0, -most40)
	for _, l := range [][]complex128{{far, 1}, {far, 1, -1}, {0, far, far, -far, -far}, {deep, -1i, 1i}, {deep, 5, deep, -deep}} {
		x, e := Sum(l)
		want(t, "Sum", x, e, 0, api.ErrToll)
		x, e = Peak(0, l)
		want(t, "Peak", x, e, 0, api.ErrToll)
		x, e = Peak(l[0], l[1:])
		want(t, "Peak from the first", x, e, 0, api.ErrToll)
	}
	x, e := Sum([]complex128{far, -1, 1})
	want(t, "Sum, up to the end", x, e, far, api.OK)
	x, e = Peak(1, []complex128{far - 1, -far, -far})
	want(t, "Peak, from end to end", x, e, far, api.OK)
}

func TestP103AddSub(t *testing.T) {
	for _, a := range some() {
		for _, b := range some() {
			ab, ai := parts(a)
			bb, bi := parts(b)
			x, e := Add(a, b)
			y, f := whatIs(ab+bb, ai+bi)
			want(t, "Add", x, e, y, f)
			x, e = Sub(a, b)
			y, f = whatIs(ab-bb, ai-bi)
			want(t, "Sub", x, e, y, f)
		}
	}
}

func TestP103Times(t *testing.T) {
	for _, a := range some() {
		b, i := parts(a)
		for n := -5; n <= 5; n++ {
			x, e := Times(a, n)
			y, f := whatIs(b*n, i*n)
			want(t, "Times", x, e, y, f)
		}
	}
	for _, n := range []int{1 << 53, 1<<53 + 1, -1<<53 - 1, 1<<62 + 1, math.MaxInt, math.MinInt} {
		x, e := Times(complex(minus, 0), n)
		want(t, "Times, nought", x, e, 0, api.OK)
		for _, a := range []complex128{1, -1, 1i, -1i, complex(most40, -most40)} {
			x, e = Times(a, n)
			want(t, "Times, too great", x, e, 0, api.ErrToll)
		}
	}
	x, e := Times(-1+1i, most40)
	want(t, "Times, the greatest", x, e, complex(-most40, most40), api.OK)
	x, e = Times(1, most40+1)
	want(t, "Times, one more", x, e, 0, api.ErrToll)
	x, e = Times(3i, most40/3+1)
	want(t, "Times, just above", x, e, 0, api.ErrToll)
}

func TestP103Sum(t *testing.T) {
	for _, l := range [][]complex128{nil, {}, {complex(minus, minus)}, {0, complex(minus, 0)}} {
		x, e := Sum(l)
		want(t, "Sum, nothing", x, e, 0, api.OK)
	}
	x, e := Sum([]complex128{1, 2i, -3})
	want(t, "Sum", x, e, -2+2i, api.OK)
	x, e = Sum([]complex128{3 - 1i})
	want(t, "Sum of one", x, e, 3-1i, api.OK)
	x, e = Sum([]complex128{4 + 4i, -4 - 4i})
	want(t, "Sum back to nought", x, e, 0, api.OK)
}

func TestP104(t *testing.T) {
	for _, a := range some() {
		b, i := parts(a)
		x, e := Swap(a)
		y, f := whatIs(i, b)
		want(t, "Swap", x, e, y, f)
		round := [][2]int{{b, i}, {-i, b}, {-b, -i}, {i, -b}}
		for n := -9; n <= 9; n++ {
			x, e = Turn(a, n)
			k := ((n % 4) + 4) % 4
			y, f = whatIs(round[k][0], round[k][1])
			want(t, "Turn", x, e, y, f)
		}
	}
	for n, x := range map[int]complex128{math.MinInt: 3 + 1i, math.MinInt + 1: -1 + 3i, math.MaxInt: 1 - 3i, math.MaxInt - 1: -3 - 1i} {
		y, e := Turn(3+1i, n)
		want(t, "Turn, far", y, e, x, api.OK)
	}
}

func TestP105(t *testing.T) {
	for _, a := range some() {
		for _, b := range some() {
			ab, ai := parts(a)
			bb, bi := parts(b)
			x, e := Most(a, b)
			y, f := whatIs(max(ab, bb), max(ai, bi))
			want(t, "Most", x, e, y, f)
			x, e = Least(a, b)
			y, f = whatIs(min(ab, bb), min(ai, bi))
			want(t, "Least", x, e, y, f)
			if is, e := Fits(a, b); is != (ab <= bb && ai <= bi) || e != api.OK {
				t.Errorf("Fits(%v, %v): %v, %v", a, b, is, e)
			}
			if is, e := Less(a, b); is != (ab < bb || ab == bb && ai < bi) || e != api.OK {
				t.Errorf("Less(%v, %v): %v, %v", a, b, is, e)
			}
		}
	}
}

func TestP106(t *testing.T) {
	for _, x := range []struct {
		start complex128
		l     []complex128
		peak  complex128
	}{
		{5 + 1i, []complex128{2 + 1i, -4 - 1i, 1 + 3i}, 7 + 4i},
		{-5 - 2i, nil, -5 - 2i},
		{complex(minus, minus), nil, 0},
		{complex(minus, minus), []complex128{complex(minus, minus)}, 0},
		{-1, []complex128{1}, 0},
		{4, []complex128{-1 - 1i, -1 - 1i}, 4},
		{-4 - 4i, []complex128{1, 1i, -2 - 2i}, -3 - 3i},
		{0, []complex128{3 - 3i, -6 + 6i}, 3 + 3i},
	} {
		got, e := Peak(x.start, x.l)
		want(t, "Peak", got, e, x.peak, api.OK)
	}
}

func TestP107(t *testing.T) {
	l := some()
	for _, a := range l {
		x, e := Turn(a, 4)
		want(t, "Turn by 4", x, e, a, api.OK)
		x, e = Swap(a)
		want(t, "Swap", x, e, complex(imag(a), real(a)), api.OK)
		x, e = Swap(x)
		want(t, "Swap twice", x, e, a, api.OK)
		x, e = Turn(a, 3)
		x, f := Turn(x, -3)
		want(t, "Turn there and back", x, max(e, f), a, api.OK)
	}
	small := l[10:]
	for n := range small {
		start, way := small[n], append(slices.Clone(small[n:]), small[:n/2]...)
		peak, e := Peak(start, way)
		last, f := Sum(append([]complex128{start}, way...))
		if e != api.OK || f != api.OK {
			t.Fatalf("%d: %v, %v", n, e, f)
		}
		for _, x := range []complex128{start, last} {
			if is, e := Fits(x, peak); !is || e != api.OK {
				t.Errorf("%d: %v is not within the peak %v", n, x, peak)
			}
		}
	}
}

func TestListStays(t *testing.T) {
	whole := []complex128{1, complex(minus, 2), complex(minus, minus), 0.5, 9}
	was := slices.Clone(whole)
	for n := range len(whole) + 1 {
		Sum(whole[:n])
		Peak(complex(minus, 1), whole[:n])
	}
	for i := range whole {
		if whole[i] != was[i] || shown(whole[i]) != shown(was[i]) {
			t.Errorf("the list's toll %d is %v, was %v", i, whole[i], was[i])
		}
	}
}
