package tests

import (
	"math"
	"slices"
	"testing"

	"loop.example/g00273/impl"
)

const (
	least    = math.MinInt64
	greatest = math.MaxInt64
)

// allOf gives every list of n of these numbers.
func allOf(n int, numbers ...int64) [][]int64 {
	all := [][]int64{{}}
	for range n {
		var longer [][]int64
		for _, p := range all {
			for _, x := range numbers {
				longer = append(longer, append(slices.Clone(p), x))
			}
		}
		all = longer
	}
	return all
}

// somePoints has points of n numbers, fewer values a number where there are
// more of them, so that three loops over them stay short.
func somePoints(n int) [][]int64 {
	switch n {
	case 1:
		return allOf(1, -1000, -999, -500, -37, -2, -1, 0, 1, 2, 3, 41, 500, 998, 1000)
	case 2:
		return allOf(2, -1000, -31, -1, 0, 2, 577, 1000)
	case 3:
		return allOf(3, -1000, -3, 0, 7, 1000)
	}
	return allOf(4, -1000, -5, 11, 1000)
}

// noPoints are lists that chapter 1 refuses.
func noPoints() [][]int64 {
	return [][]int64{
		nil, {},
		{1001}, {-1001}, {least}, {greatest}, {least + 1}, {1 << 32}, {-1 << 32},
		{0, 1001}, {-1001, 0}, {1000, 1001}, {least, greatest}, {greatest, least}, {0, least},
		{1, 2, 1001}, {1, -1001, 3}, {greatest, 2, 3},
		{1, 2, 3, 1001}, {-1001, 2, 3, 4}, {1, 2, least, 4}, {greatest, greatest, greatest, greatest},
		{0, 0, 0, 0, 0}, {1, 2, 3, 4, 5}, {1000, 1000, 1000, 1000, 1000}, {1, 2, 3, 4, 1001}, make([]int64, 6), make([]int64, 100),
	}
}

func TestPointOkEdges(t *testing.T) {
	for n := 1; n <= 4; n++ {
		for _, p := range somePoints(n) {
			if !impl.PointOk(p) {
				t.Fatalf("PointOk(%v) is false", p)
			}
		}
		for i := range n {
			for _, x := range []int64{-1000, -999, 0, 999, 1000} {
				p := make([]int64, n)
				p[i] = x
				if !impl.PointOk(p) {
					t.Errorf("PointOk(%v) is false", p)
				}
			}
			for _, x := range []int64{-1001, 1001, -1002, 1002, 1 << 32, -1 << 32, least, least + 1, greatest} {
				p := make([]int64, n)
				p[i] = x
				if impl.PointOk(p) {
					t.Errorf("PointOk(%v) is true", p)
				}
			}
		}
	}
	for _, p := range noPoints() {
		if impl.PointOk(p) {
			t.Errorf("PointOk(%v) is true", p)
		}
	}
	if impl.MaxAt != 1000 {
		t.Error(impl.MaxAt)
	}
}

func TestPointOrdinary(t *testing.T) {
	for _, c := range []struct {
		a, b                   []int64
		far, dot, steps, reach int64
		moved                  []int64
	}{
		{[]int64{0}, []int64{0}, 0, 0, 0, 0, []int64{0}},
		{[]int64{3}, []int64{-4}, 49, -12, 7, 7, []int64{-1}},
		{[]int64{-3}, []int64{-4}, 1, 12, 1, 1, []int64{-7}},
		{[]int64{1000}, []int64{-1000}, 4000000, -1000000, 2000, 2000, []int64{0}},
		{[]int64{1, -2}, []int64{4, 2}, 25, 0, 7, 4, []int64{5, 0}},
		{[]int64{-5, 9}, []int64{7, -1}, 244, -44, 22, 12, []int64{2, 8}},
		{[]int64{2, 2}, []int64{2, 2}, 0, 8, 0, 0, []int64{4, 4}},
		{[]int64{1, 2, 3}, []int64{3, 0, -3}, 44, -6, 10, 6, []int64{4, 2, 0}},
		{[]int64{-10, -20, -30}, []int64{-11, -18, -27}, 14, 1280, 6, 3, []int64{-21, -38, -57}},
		{[]int64{1, -2, 3, -4}, []int64{-5, 6, 7, 8}, 260, -28, 30, 12, []int64{-4, 4, 10, 4}},
		{[]int64{1000, 1000, 1000, 1000}, []int64{-1000, -1000, -1000, -1000}, 16000000, -4000000, 8000, 2000, []int64{0, 0, 0, 0}},
		{[]int64{-1000, 1000, -1000, 1000}, []int64{0, 0, 0, 0}, 4000000, 0, 4000, 1000, []int64{-1000, 1000, -1000, 1000}},
	} {
		for range 2 {
			if g := impl.Far(c.a, c.b); g != c.far {
				t.Errorf("Far(%v, %v) = %d, not %d", c.a, c.b, g, c.far)
			}
			if g := impl.Dot(c.a, c.b); g != c.dot {
				t.Errorf("Dot(%v, %v) = %d, not %d", c.a, c.b, g, c.dot)
			}
			if g := impl.Steps(c.a, c.b); g != c.steps {
				t.Errorf("Steps(%v, %v) = %d, not %d", c.a, c.b, g, c.steps)
			}
			if g := impl.Reach(c.a, c.b); g != c.reach {
				t.Errorf("Reach(%v, %v) = %d, not %d", c.a, c.b, g, c.reach)
			}
			if g := impl.Moved(c.a, c.b); !slices.Equal(g, c.moved) {
				t.Errorf("Moved(%v, %v) = %v, not %v", c.a, c.b, g, c.moved)
			}
			c.a, c.b = c.b, c.a
		}
	}
}

// Every pair of points against the document's words, number by number.
func TestPointPairs(t *testing.T) {
	for n := 1; n <= 4; n++ {
		points := somePoints(n)
		for _, a := range points {
			for _, b := range points {
				var far, dot, steps, reach int64
				moved := make([]int64, n)
				fits := true
				for i := range n {
					gap := a[i] - b[i]
					if gap < 0 {
						gap = -gap
					}
					far += gap * gap
					dot += a[i] * b[i]
					steps += gap
					reach = max(reach, gap)
					moved[i] = a[i] + b[i]
					fits = fits && -1000 <= moved[i] && moved[i] <= 1000
				}
				if !fits {
					moved = nil
				}
				if impl.Far(a, b) != far || impl.Dot(a, b) != dot || impl.Steps(a, b) != steps || impl.Reach(a, b) != reach {
					t.Fatalf("%v, %v: %d %d %d %d, not %d %d %d %d", a, b, impl.Far(a, b), impl.Dot(a, b), impl.Steps(a, b), impl.Reach(a, b), far, dot, steps, reach)
				}
				if g := impl.Moved(a, b); !slices.Equal(g, moved) {
					t.Fatalf("Moved(%v, %v) = %v, not %v", a, b, g, moved)
				}
			}
		}
	}
}

// Promise 1: the square of Dot is no more than the product of both points'
// Far from nought.
func TestCauchy(t *testing.T) {
	for n := 1; n <= 4; n++ {
		nought := make([]int64, n)
		points := somePoints(n)
		for _, a := range points {
			for _, b := range points {
				dot := impl.Dot(a, b)
				if most := impl.Far(a, nought) * impl.Far(b, nought); dot*dot > most {
					t.Fatalf("Dot(%v, %v) = %d: its square is above %d", a, b, dot, most)
				}
			}
		}
	}
}

// Where the two are alike, or one is a multiple of the other, both sides of
// promise 1 are alike; where they point elsewhere, they are not.
func TestCauchyAlike(t *testing.T) {
	for n := 1; n <= 4; n++ {
		nought := make([]int64, n)
		for _, a := range somePoints(n) {
			if dot := impl.Dot(a, a); dot != impl.Far(a, nought) || dot != impl.Far(nought, a) {
				t.Fatalf("Dot(%v, itself) = %d, Far from nought %d", a, dot, impl.Far(a, nought))
			}
			for _, times := range []int64{-3, -1, 0, 1, 2} {
				b := make([]int64, n)
				for i := range n {
					b[i] = times * a[i]
				}
				if !impl.PointOk(b) {
					continue
				}
				dot := impl.Dot(a, b)
				if most := impl.Far(a, nought) * impl.Far(b, nought); dot*dot != most || dot != times*impl.Far(a, nought) {
					t.Fatalf("Dot(%v, %v) = %d: its square is not %d", a, b, dot, most)
				}
			}
		}
	}
	a, b, nought := []int64{3, 4}, []int64{4, 3}, []int64{0, 0}
	if dot := impl.Dot(a, b); dot != 24 || dot*dot >= impl.Far(a, nought)*impl.Far(b, nought) {
		t.Error(dot)
	}
}

// Promise 1: Steps and Reach keep the third side. Far does not: that these
// two are no squares is told apart by the last lines.
func TestThirdSide(t *testing.T) {
	for n := 1; n <= 4; n++ {
		points := somePoints(n)
		if n > 2 {
			points = allOf(n, -1000, -3, 7)
		}
		for _, a := range points {
			for _, b := range points {
				steps, reach := impl.Steps(a, b), impl.Reach(a, b)
				if steps < 0 || reach < 0 || steps != impl.Steps(b, a) || reach != impl.Reach(b, a) {
					t.Fatalf("%v, %v: %d %d", a, b, steps, reach)
				}
				if alike := slices.Equal(a, b); alike != (steps == 0) || alike != (reach == 0) {
					t.Fatalf("%v, %v: %d %d", a, b, steps, reach)
				}
				for _, c := range points {
					if impl.Steps(a, c)+impl.Steps(c, b) < steps {
						t.Fatalf("Steps: %v over %v to %v is less than %d", a, c, b, steps)
					}
					if impl.Reach(a, c)+impl.Reach(c, b) < reach {
						t.Fatalf("Reach: %v over %v to %v is less than %d", a, c, b, reach)
					}
				}
			}
		}
	}
	a, b, c := []int64{0}, []int64{2}, []int64{1}
	if impl.Steps(a, c)+impl.Steps(c, b) != impl.Steps(a, b) || impl.Reach(a, c)+impl.Reach(c, b) != impl.Reach(a, b) {
		t.Error("one that lies between makes the way longer")
	}
	if impl.Far(a, c)+impl.Far(c, b) >= impl.Far(a, b) {
		t.Error("Far is no sum of squares")
	}
}

func TestMovedEdges(t *testing.T) {
	for _, c := range []struct{ a, b, want []int64 }{
		{[]int64{999}, []int64{1}, []int64{1000}},
		{[]int64{1000}, []int64{1}, nil},
		{[]int64{-999}, []int64{-1}, []int64{-1000}},
		{[]int64{-1000}, []int64{-1}, nil},
		{[]int64{1000}, []int64{0}, []int64{1000}},
		{[]int64{1000}, []int64{1000}, nil},
		{[]int64{-1000}, []int64{-1000}, nil},
		{[]int64{500, -500}, []int64{500, -500}, []int64{1000, -1000}},
		{[]int64{501, -500}, []int64{500, -500}, nil},
		{[]int64{500, -501}, []int64{500, -500}, nil},
		{[]int64{1, 2, 600}, []int64{1, 2, 400}, []int64{2, 4, 1000}},
		{[]int64{1, 2, 600}, []int64{1, 2, 401}, nil},
		{[]int64{1, 2, 3, -600}, []int64{4, 5, 6, -400}, []int64{5, 7, 9, -1000}},
		{[]int64{1, 2, 3, -600}, []int64{4, 5, 6, -401}, nil},
		{[]int64{700, 2, 3, 4}, []int64{301, 5, 6, 7}, nil},
		// The sum would be a point, but one of the two is none.
		{[]int64{1001}, []int64{-1}, nil},
		{[]int64{1001}, []int64{-1001}, nil},
		{[]int64{greatest}, []int64{least}, nil},
		{[]int64{least}, []int64{least}, nil},
		{[]int64{greatest}, []int64{least + 1}, nil},
		{[]int64{0, 1001}, []int64{0, -1}, nil},
	} {
		if g := impl.Moved(c.a, c.b); !slices.Equal(g, c.want) {
			t.Errorf("Moved(%v, %v) = %v, not %v", c.a, c.b, g, c.want)
		}
		if g := impl.Moved(c.b, c.a); !slices.Equal(g, c.want) {
			t.Errorf("Moved(%v, %v) = %v, not %v", c.b, c.a, g, c.want)
		}
	}
}

// refused asks for the fixed answers, whichever of the two comes first.
func refused(t *testing.T, a, b []int64) {
	t.Helper()
	for range 2 {
		if g := impl.Far(a, b); g != -1 {
			t.Errorf("Far(%v, %v) = %d", a, b, g)
		}
		if g := impl.Dot(a, b); g != 0 {
			t.Errorf("Dot(%v, %v) = %d", a, b, g)
		}
		if g := impl.Steps(a, b); g != -1 {
			t.Errorf("Steps(%v, %v) = %d", a, b, g)
		}
		if g := impl.Reach(a, b); g != -1 {
			t.Errorf("Reach(%v, %v) = %d", a, b, g)
		}
		if g := impl.Moved(a, b); len(g) != 0 {
			t.Errorf("Moved(%v, %v) = %v", a, b, g)
		}
		a, b = b, a
	}
}

func TestPointWrong(t *testing.T) {
	rights := [][]int64{{1}, {2, -3}, {4, 5, -6}, {7, -8, 9, 10}}
	for _, wrong := range noPoints() {
		for _, right := range rights {
			refused(t, wrong, right)
		}
		for _, other := range noPoints() {
			refused(t, wrong, other)
		}
	}
	for i, a := range rights {
		for j, b := range rights {
			if i != j {
				refused(t, a, b)
			}
		}
	}
	long := []int64{1, 2, 3, 4}
	for n := range 4 {
		refused(t, long, long[:n])
	}
}

// roomy is p with spare room behind it, and the whole of that memory.
func roomy(p []int64) (list, whole []int64) {
	whole = append(slices.Clone(p), 71, 72, 73, 74, 75)
	return whole[:len(p)], whole
}

func TestPointArgumentsStay(t *testing.T) {
	lists := append(noPoints(), []int64{1}, []int64{-1000}, []int64{1, -2}, []int64{1000, 999}, []int64{3, 4, -5}, []int64{1, 2, 3, -4})
	for _, p := range lists {
		for _, q := range lists {
			a, wholeA := roomy(p)
			b, wholeB := roomy(q)
			keptA, keptB := slices.Clone(wholeA), slices.Clone(wholeB)
			impl.PointOk(a)
			impl.Far(a, b)
			impl.Dot(a, b)
			impl.Steps(a, b)
			impl.Reach(a, b)
			moved := impl.Moved(a, b)
			moved = moved[:cap(moved)]
			for i := range moved {
				moved[i] = -77
			}
			if !slices.Equal(wholeA, keptA) || !slices.Equal(wholeB, keptB) {
				t.Fatalf("%v, %v became %v, %v", keptA, keptB, wholeA, wholeB)
			}
		}
	}
}

// Both arguments may be one list, and an answer outlives the next call.
func TestMovedIsNew(t *testing.T) {
	a, whole := roomy([]int64{1, -2, 3})
	first := impl.Moved(a, a)
	second := impl.Moved(a, a)
	if !slices.Equal(first, []int64{2, -4, 6}) || !slices.Equal(second, first) {
		t.Fatal(first, second)
	}
	first[0], first[1], first[2] = 9, 9, 9
	if !slices.Equal(second, []int64{2, -4, 6}) || !slices.Equal(whole[:3], []int64{1, -2, 3}) {
		t.Error(second, whole)
	}
	nought, _ := roomy([]int64{0, 0, 0})
	still := impl.Moved(a, nought)
	a[0] = 500
	nought[1] = 500
	if !slices.Equal(still, []int64{1, -2, 3}) {
		t.Error(still)
	}
}
