// Package toll reckons with tolls: complex numbers whose parts are blocks and inodes.
package toll

import (
	"math"

	"shunt/api"
)

// Make tells the toll of so many blocks and inodes.
func Make(blocks, inodes int) (complex128, api.Errno) {
	if !count(blocks) || !count(inodes) {
		return 0, api.ErrToll
	}
	return complex(float64(blocks), float64(inodes)), api.OK
}

// Parts tells the blocks and the inodes of a toll.
func Parts(t complex128) (blocks, inodes int, e api.Errno) {
	if !tolls(t) {
		return 0, 0, api.ErrToll
	}
	return int(real(t)), int(imag(t)), api.OK
}

// Add tells the sum.
func Add(a, b complex128) (complex128, api.Errno) {
	if !tolls(a, b) {
		return 0, api.ErrToll
	}
	return answer(a + b)
}

// Sub tells the difference.
func Sub(a, b complex128) (complex128, api.Errno) {
	if !tolls(a, b) {
		return 0, api.ErrToll
	}
	return answer(a - b)
}

// Times tells the toll n times.
func Times(t complex128, n int) (complex128, api.Errno) {
	if !tolls(t) {
		return 0, api.ErrToll
	}
	// Rounding can't bring a product that is too great back among the tolls: up to 2^53 all is exact, and what is above stays above.
	return answer(t * complex(float64(n), 0))
}

// Swap tells the toll with its blocks and inodes exchanged.
func Swap(t complex128) (complex128, api.Errno) {
	if !tolls(t) {
		return 0, api.ErrToll
	}
	return answer(conjugate(t) * 1i)
}

// Turn tells the toll times i, as often as quarters says; a negative number turns back.
func Turn(t complex128, quarters int) (complex128, api.Errno) {
	if !tolls(t) {
		return 0, api.ErrToll
	}
	// The lowest two bits are the number modulo 4 below 0, too.
	for range quarters & 3 {
		t *= 1i
	}
	return answer(t)
}

// Most tells of each part the greater one.
func Most(a, b complex128) (complex128, api.Errno) {
	if !tolls(a, b) {
		return 0, api.ErrToll
	}
	return answer(most(a, b))
}

// Least tells of each part the lesser one.
func Least(a, b complex128) (complex128, api.Errno) {
	if !tolls(a, b) {
		return 0, api.ErrToll
	}
	return answer(least(a, b))
}

// Fits tells whether need is in both parts at most free.
func Fits(need, free complex128) (bool, api.Errno) {
	if !tolls(need, free) {
		return false, api.ErrToll
	}
	return most(need, free) == free, api.OK
}

// Less tells whether a has less blocks than b, or as many, and less inodes.
func Less(a, b complex128) (bool, api.Errno) {
	if !tolls(a, b) {
		return false, api.ErrToll
	}
	if real(a) != real(b) {
		return real(a) < real(b), api.OK
	}
	return imag(a) < imag(b), api.OK
}

// Sum tells the sum of all tolls of the list.
func Sum(l []complex128) (complex128, api.Errno) {
	last, _, e := climb(0, l)
	return last, e
}

// Peak tells of each part the greatest among start and the sums of start and the list's first tolls.
func Peak(start complex128, l []complex128) (complex128, api.Errno) {
	_, peak, e := climb(start, l)
	return peak, e
}

// climb sums start and the list from the left: the last sum, and of each part the greatest one on the way.
func climb(start complex128, l []complex128) (last, peak complex128, e api.Errno) {
	if !tolls(start) {
		return 0, 0, api.ErrToll
	}
	if len(l) > api.MaxActs {
		return 0, 0, api.ErrLong
	}
	if !tolls(l...) {
		return 0, 0, api.ErrToll
	}
	last, peak = plain(start), plain(start)
	for _, t := range l {
		last, e = answer(last + t)
		if e != api.OK {
			return 0, 0, e
		}
		peak = most(peak, last)
	}
	return last, peak, api.OK
}

// answer tells t, if it is a toll.
func answer(t complex128) (complex128, api.Errno) {
	if !tolls(t) {
		return 0, api.ErrToll
	}
	return plain(t), api.OK
}

// tolls tells whether all of these are tolls.
func tolls(l ...complex128) bool {
	for _, t := range l {
		if !whole(real(t)) || !whole(imag(t)) {
			return false
		}
	}
	return true
}

// whole tells whether x can be a part of a toll. (What is no number at all is in no range.)
func whole(x float64) bool {
	return x >= -api.MaxCount && x <= api.MaxCount && x == math.Trunc(x)
}

// count tells whether n can be a part of a toll.
func count(n int) bool { return n >= -api.MaxCount && n <= api.MaxCount }

// plain takes the sign off a nought: -0 and 0 make 0, any other part stays.
func plain(t complex128) complex128 { return t + 0 }

func conjugate(t complex128) complex128 { return complex(real(t), -imag(t)) }

func most(a, b complex128) complex128 {
	return complex(max(real(a), real(b)), max(imag(a), imag(b)))
}

func least(a, b complex128) complex128 {
	return complex(min(real(a), real(b)), min(imag(a), imag(b)))
}
