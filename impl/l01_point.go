package impl

import "slices"

const MaxAt = 1000

const maxNumbers = 4

// point is a list of numbers that may yet be too long or too far out; ok tells.
type point []int64

func PointOk(p []int64) bool { return point(p).ok() }

func Far(a []int64, b []int64) int64 { return measured(a, b, point.far, -1) }

func Dot(a []int64, b []int64) int64 { return measured(a, b, point.dot, 0) }

func Steps(a []int64, b []int64) int64 { return measured(a, b, point.steps, -1) }

func Reach(a []int64, b []int64) int64 { return measured(a, b, point.reach, -1) }

func Moved(a []int64, b []int64) []int64 {
	p, q := point(a), point(b)
	if !p.pairs(q) {
		return nil
	}
	sum := q.each(p.plus)
	if !sum.ok() {
		return nil
	}
	return sum
}

// measured asks both points first, so that no method by which it measures
// meets a number whose square or difference would wrap round.
func measured(a, b point, by func(a, b point) int64, refused int64) int64 {
	if !a.pairs(b) {
		return refused
	}
	return by(a, b)
}

func (p point) ok() bool { return p.keepsTo(-MaxAt, MaxAt) }

// keepsTo asks for as many numbers as a point has, each from low to high.
func (p point) keepsTo(low, high int64) bool {
	if len(p) < 1 || len(p) > maxNumbers {
		return false
	}
	for _, x := range p {
		if x < low || x > high {
			return false
		}
	}
	return true
}

func (p point) pairs(q point) bool { return len(p) == len(q) && p.ok() && q.ok() }

func (p point) far(q point) int64 { return q.each(p.square).total() }

func (p point) dot(q point) int64 { return q.each(p.times).total() }

func (p point) steps(q point) int64 { return q.each(p.gap).total() }

func (p point) reach(q point) int64 { return slices.Max(q.each(p.gap)) }

// each is new numbers, one for each of p's; with is a method value of the
// other point, which finds its own number under i.
func (p point) each(with func(i int, x int64) int64) point {
	all := make(point, len(p))
	for i, x := range p {
		all[i] = with(i, x)
	}
	return all
}

func (p point) total() int64 {
	sum := int64(0)
	for _, x := range p {
		sum += x
	}
	return sum
}

func (p point) plus(i int, x int64) int64 { return p[i] + x }

func (p point) times(i int, x int64) int64 { return p[i] * x }

func (p point) gap(i int, x int64) int64 { return max(p[i]-x, x-p[i]) }

func (p point) square(i int, x int64) int64 { return (p[i] - x) * (p[i] - x) }
