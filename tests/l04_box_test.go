package tests

import (
	"slices"
	"testing"

	"loop.example/g00273/impl"
)

func boxOf(low, high []int64) impl.Box { return impl.Box{Low: low, High: high} }

func sameBox(a, b impl.Box) bool {
	return slices.Equal(a.Low, b.Low) && slices.Equal(a.High, b.High)
}

func isZero(b impl.Box) bool { return len(b.Low) == 0 && len(b.High) == 0 }

// holds tells by the document's words whether p is within right ends.
func holds(b impl.Box, p []int64) bool {
	for i, x := range p {
		if x < b.Low[i] || x > b.High[i] {
			return false
		}
	}
	return true
}

// boxesOf gives every right box whose ends are of n of these numbers.
func boxesOf(n int, numbers ...int64) []impl.Box {
	var boxes []impl.Box
	ends := allOf(n, numbers...)
	for _, low := range ends {
		above := boxOf(low, slices.Repeat([]int64{greatest}, n))
		for _, high := range ends {
			if holds(above, high) {
				boxes = append(boxes, boxOf(slices.Clone(low), slices.Clone(high)))
			}
		}
	}
	return boxes
}

// someBoxes has right boxes of n numbers, some of one point, some of all.
func someBoxes(n int) []impl.Box {
	switch n {
	case 1:
		return boxesOf(1, -1000, -999, -40, -1, 0, 1, 3, 500, 1000)
	case 2:
		return boxesOf(2, -1000, -7, 0, 6, 1000)
	case 3:
		return boxesOf(3, -1000, -2, 5, 1000)
	}
	return boxesOf(4, -1000, 3, 1000)
}

// within is every point of a small box.
func within(b impl.Box) [][]int64 {
	all := [][]int64{{}}
	for i := range b.Low {
		var longer [][]int64
		for _, p := range all {
			for x := b.Low[i]; x <= b.High[i]; x++ {
				longer = append(longer, append(slices.Clone(p), x))
			}
		}
		all = longer
	}
	return all
}

// with is p with x under i.
func with(p []int64, i int, x int64) []int64 {
	other := slices.Clone(p)
	other[i] = x
	return other
}

// noBoxes are boxes that chapter 4 refuses.
func noBoxes() []impl.Box {
	boxes := []impl.Box{
		{}, {Low: []int64{}, High: []int64{}},
		{Low: []int64{1}}, {High: []int64{1}}, {Low: []int64{1, 2}, High: []int64{}},
		boxOf([]int64{1}, []int64{0}), boxOf([]int64{1000}, []int64{-1000}),
		boxOf([]int64{0, 1}, []int64{5, 0}), boxOf([]int64{6, 0}, []int64{5, 9}),
		boxOf([]int64{1, 2, 3, 5}, []int64{1, 2, 3, 4}),
		// All of Low is above, but one number.
		boxOf([]int64{1, 1, 1, 0}, []int64{0, 0, 0, 0}),
		// Lists, in their order as lists, that rise; numbers that do not.
		boxOf([]int64{0, 9}, []int64{1, 0}), boxOf([]int64{0, 0, 9}, []int64{0, 1, 8}),
		boxOf([]int64{least}, []int64{greatest}), boxOf([]int64{greatest}, []int64{least}),
		boxOf([]int64{-1001, -1001}, []int64{1001, 1001}),
	}
	for n := 1; n <= 4; n++ {
		low, high := slices.Repeat([]int64{-5}, n), slices.Repeat([]int64{5}, n)
		for other := range 6 {
			if other != n {
				boxes = append(boxes, boxOf(low, slices.Repeat([]int64{5}, other)), boxOf(slices.Repeat([]int64{-5}, other), high))
			}
		}
		for i := range n {
			boxes = append(boxes, boxOf(with(low, i, 6), high), boxOf(low, with(high, i, -6)))
			for _, x := range []int64{-1001, -1002, least, least + 1} {
				boxes = append(boxes, boxOf(with(low, i, x), high), boxOf(with(low, i, x), with(high, i, x)))
			}
			for _, x := range []int64{1001, 1002, greatest, greatest - 1} {
				boxes = append(boxes, boxOf(low, with(high, i, x)), boxOf(with(low, i, x), with(high, i, x)))
			}
		}
	}
	for _, p := range noPoints() {
		boxes = append(boxes, boxOf(p, p),
			boxOf(p, slices.Repeat([]int64{1000}, len(p))), boxOf(slices.Repeat([]int64{-1000}, len(p)), p))
	}
	return boxes
}

func TestBoxOkRight(t *testing.T) {
	for n := 1; n <= 4; n++ {
		for _, b := range someBoxes(n) {
			if !impl.BoxOk(b) {
				t.Fatalf("BoxOk(%v) is false", b)
			}
		}
		for _, p := range somePoints(n) {
			if !impl.BoxOk(boxOf(p, p)) || !impl.BoxOk(boxOf(p, slices.Clone(p))) {
				t.Fatalf("BoxOk of %v alone is false", p)
			}
		}
		if b := boxOf(slices.Repeat([]int64{-1000}, n), slices.Repeat([]int64{1000}, n)); !impl.BoxOk(b) {
			t.Errorf("BoxOk(%v) is false", b)
		}
	}
}

func TestBoxOkWrong(t *testing.T) {
	for _, b := range noBoxes() {
		if impl.BoxOk(b) {
			t.Errorf("BoxOk(%v) is true", b)
		}
	}
}

// One less than High's, alike, and one more, in each place.
func TestBoxOkEachPlace(t *testing.T) {
	for n := 1; n <= 4; n++ {
		for _, high := range somePoints(n) {
			for i, x := range high {
				low := slices.Repeat([]int64{-1000}, n)
				if !impl.BoxOk(boxOf(with(low, i, x), high)) {
					t.Fatalf("alike under %d of %v is refused", i, high)
				}
				if x > -1000 && !impl.BoxOk(boxOf(with(low, i, x-1), high)) {
					t.Fatalf("one less under %d of %v is refused", i, high)
				}
				if impl.BoxOk(boxOf(with(low, i, x+1), high)) {
					t.Fatalf("one more under %d of %v is accepted", i, high)
				}
			}
		}
	}
}

func TestAroundOrdinary(t *testing.T) {
	for _, c := range []struct {
		list []impl.Mark
		want impl.Box
	}{
		{[]impl.Mark{{Id: 5, At: []int64{7}}}, boxOf([]int64{7}, []int64{7})},
		{[]impl.Mark{{Id: 5, At: []int64{-1000, 1000}}}, boxOf([]int64{-1000, 1000}, []int64{-1000, 1000})},
		{[]impl.Mark{{Id: 1, At: []int64{3}}, {Id: 2, At: []int64{-4}}}, boxOf([]int64{-4}, []int64{3})},
		{[]impl.Mark{{Id: 1, At: []int64{3, -1}}, {Id: 2, At: []int64{-4, 6}}}, boxOf([]int64{-4, -1}, []int64{3, 6})},
		{[]impl.Mark{{Id: 1, At: []int64{3, 2, 1}}, {Id: 2, At: []int64{3, 2, 1}}}, boxOf([]int64{3, 2, 1}, []int64{3, 2, 1})},
		{[]impl.Mark{{Id: 1, At: []int64{0, 0}}, {Id: 2, At: []int64{3, 4}}, {Id: 3, At: []int64{1, 0}}, {Id: 5, At: []int64{9, 9}}}, boxOf([]int64{0, 0}, []int64{9, 9})},
		// Each end of each number is of another mark.
		{[]impl.Mark{{Id: 1, At: []int64{1, 1, 8}}, {Id: 2, At: []int64{-3, 2, 2}}, {Id: 3, At: []int64{0, 7, 3}}, {Id: 4, At: []int64{5, 3, 4}}, {Id: 9, At: []int64{2, -6, 5}}, {Id: 10, At: []int64{3, 4, -9}}}, boxOf([]int64{-3, -6, -9}, []int64{5, 7, 8})},
		// All are below nought, all are above it.
		{[]impl.Mark{{Id: 1, At: []int64{-5, 5, -5, 5}}, {Id: 1000000, At: []int64{-3, 3, -9, 9}}}, boxOf([]int64{-5, 3, -9, 5}, []int64{-3, 5, -5, 9})},
	} {
		if g := impl.Around(c.list); !sameBox(g, c.want) {
			t.Errorf("Around(%v) = %v, not %v", c.list, g, c.want)
		}
	}
}

// The least box: all are inside, and each side has a mark on it.
func TestAroundIsTheLeast(t *testing.T) {
	for _, list := range manyMarks() {
		b := impl.Around(list)
		if len(list) == 0 {
			if !isZero(b) {
				t.Fatalf("Around(%v) = %v", list, b)
			}
			continue
		}
		if !impl.BoxOk(b) {
			t.Fatalf("Around(%v) = %v is not BoxOk", list, b)
		}
		for _, m := range list {
			if !impl.Inside(b, m.At) || !holds(b, m.At) {
				t.Fatalf("Around(%v) = %v is without %v", list, b, m)
			}
		}
		for i := range b.Low {
			on := func(x int64) bool {
				return slices.ContainsFunc(list, func(m impl.Mark) bool { return m.At[i] == x })
			}
			if !on(b.Low[i]) || !on(b.High[i]) {
				t.Fatalf("Around(%v) = %v is wider than need be in %d", list, b, i)
			}
		}
	}
}

func TestAroundWrong(t *testing.T) {
	for _, list := range append(noMarks(), nil, []impl.Mark{}, make([]impl.Mark, 0, 5)) {
		if g := impl.Around(list); !isZero(g) {
			t.Errorf("Around(%v) = %v", list, g)
		}
	}
	list := someMarks(walkOf(1), impl.MaxMarks, 3, 1000)
	if g := impl.Around(list); !impl.BoxOk(g) {
		t.Errorf("Around of %d marks = %v", len(list), g)
	}
}

func TestBoxOrdinary(t *testing.T) {
	one := boxOf([]int64{-2}, []int64{5})
	two := boxOf([]int64{0, 0}, []int64{9, 9})
	three := boxOf([]int64{-1, 2, -5}, []int64{1, 2, 5})
	four := boxOf([]int64{-1000, -1000, -1000, -1000}, []int64{1000, 1000, 1000, 1000})
	alone := boxOf([]int64{3, 4}, []int64{3, 4})
	corner := boxOf([]int64{1000, 1000, 1000, 1000}, []int64{1000, 1000, 1000, 1000})
	for _, c := range []struct {
		b              impl.Box
		p              []int64
		inside         bool
		toBox, corners int64
	}{
		{one, []int64{0}, true, 0, 25}, {one, []int64{2}, true, 0, 16}, {one, []int64{1}, true, 0, 16},
		{one, []int64{-2}, true, 0, 49}, {one, []int64{5}, true, 0, 49},
		{one, []int64{-3}, false, 1, 64}, {one, []int64{6}, false, 1, 64},
		{one, []int64{-1000}, false, 998 * 998, 1005 * 1005}, {one, []int64{1000}, false, 995 * 995, 1002 * 1002},
		{two, []int64{12, -4}, false, 25, 313}, {two, []int64{9, 0}, true, 0, 162}, {two, []int64{10, 0}, false, 1, 181},
		{two, []int64{4, 5}, true, 0, 50}, {two, []int64{-3, 5}, false, 9, 169}, {two, []int64{5, 13}, false, 16, 194},
		{two, []int64{-3, -4}, false, 25, 313}, {two, []int64{12, 13}, false, 25, 313}, {two, []int64{-3, 13}, false, 25, 313},
		{three, []int64{0, 2, 0}, true, 0, 26}, {three, []int64{0, 1, 0}, false, 1, 27}, {three, []int64{3, 5, -8}, false, 22, 194},
		{four, []int64{0, 0, 0, 0}, true, 0, 4000000}, {four, []int64{1000, -1000, 1000, -1000}, true, 0, 16000000},
		{four, []int64{1, 2, -3, 4}, true, 0, 1001*1001 + 1002*1002 + 1003*1003 + 1004*1004},
		{alone, []int64{3, 4}, true, 0, 0}, {alone, []int64{0, 0}, false, 25, 25}, {alone, []int64{4, 4}, false, 1, 1},
		{corner, []int64{-1000, -1000, -1000, -1000}, false, 16000000, 16000000},
	} {
		if g := impl.Inside(c.b, c.p); g != c.inside {
			t.Errorf("Inside(%v, %v) is %t", c.b, c.p, g)
		}
		if g := impl.ToBox(c.b, c.p); g != c.toBox {
			t.Errorf("ToBox(%v, %v) = %d, not %d", c.b, c.p, g, c.toBox)
		}
		if g := impl.Corner(c.b, c.p); g != c.corners {
			t.Errorf("Corner(%v, %v) = %d, not %d", c.b, c.p, g, c.corners)
		}
	}
}

// Every box and point against the document's words, number by number.
func TestBoxNumberByNumber(t *testing.T) {
	for n := 1; n <= 4; n++ {
		points := somePoints(n)
		for _, b := range someBoxes(n) {
			for _, p := range points {
				var toBox, corner int64
				for i, x := range p {
					switch {
					case x < b.Low[i]:
						toBox += (b.Low[i] - x) * (b.Low[i] - x)
					case x > b.High[i]:
						toBox += (x - b.High[i]) * (x - b.High[i])
					}
					corner += max((x-b.Low[i])*(x-b.Low[i]), (x-b.High[i])*(x-b.High[i]))
				}
				if impl.Inside(b, p) != holds(b, p) || impl.ToBox(b, p) != toBox || impl.Corner(b, p) != corner {
					t.Fatalf("%v, %v: %t %d %d, not %t %d %d", b, p, impl.Inside(b, p), impl.ToBox(b, p), impl.Corner(b, p), holds(b, p), toBox, corner)
				}
			}
		}
	}
}

// Inside, on an end, and outside by one, on each side of each number.
func TestInsideEachSide(t *testing.T) {
	for n := 1; n <= 4; n++ {
		low, high := slices.Repeat([]int64{-3}, n), slices.Repeat([]int64{8}, n)
		b := boxOf(low, high)
		for _, p := range allOf(n, -3, 0, 8) {
			if !impl.Inside(b, p) || impl.ToBox(b, p) != 0 {
				t.Fatalf("%v is not inside %v", p, b)
			}
			for i := range n {
				for _, x := range []int64{-4, 9, -1000, 1000} {
					out := with(p, i, x)
					off := max(-3-x, x-8)
					if impl.Inside(b, out) || impl.ToBox(b, out) != off*off {
						t.Fatalf("%v and %v: %t %d", b, out, impl.Inside(b, out), impl.ToBox(b, out))
					}
				}
			}
		}
	}
}

// Promise 4: no point inside is nearer than ToBox, nor farther than Corner.
// One of them is just as near, and one just as far.
func TestNoNearerNorFarther(t *testing.T) {
	for n := 1; n <= 4; n++ {
		ends := []int64{-2, 0, 1}
		if n < 3 {
			ends = []int64{-3, -1, 0, 2, 4}
		}
		for _, b := range boxesOf(n, ends...) {
			inside := within(b)
			for _, p := range append(allOf(n, -4, 0, 3), slices.Repeat([]int64{1000}, n), slices.Repeat([]int64{-1000}, n)) {
				near, far := impl.ToBox(b, p), impl.Corner(b, p)
				nearest, farthest := int64(greatest), int64(-1)
				for _, q := range inside {
					nearest, farthest = min(nearest, impl.Far(p, q)), max(farthest, impl.Far(p, q))
				}
				if nearest != near || farthest != far {
					t.Fatalf("%v and %v: %d to %d, not %d to %d", b, p, near, far, nearest, farthest)
				}
			}
		}
	}
}

// Promise 4 of boxes as wide as there may be.
func TestNoNearerNorFartherWide(t *testing.T) {
	next := walkOf(44)
	for n := 1; n <= 4; n++ {
		for _, wide := range []int64{0, 1, 10, 1000} {
			for range 60 {
				b := impl.Around(someMarks(next, 2, n, wide))
				for _, p := range places(next, nil, n) {
					near, far := impl.ToBox(b, p), impl.Corner(b, p)
					for range 20 {
						q := make([]int64, n)
						for i := range q {
							q[i] = b.Low[i] + next(b.High[i]-b.Low[i]+1)
						}
						if d := impl.Far(p, q); !impl.Inside(b, q) || d < near || d > far {
							t.Fatalf("%v, %v: %v is %d, not from %d to %d", b, p, q, d, near, far)
						}
					}
					if (near == 0) != impl.Inside(b, p) || near > far {
						t.Fatalf("%v, %v: %d to %d", b, p, near, far)
					}
				}
			}
		}
	}
}

// Of a box of one point all is Far.
func TestBoxOfOnePoint(t *testing.T) {
	for n := 1; n <= 4; n++ {
		points := somePoints(n)
		for _, a := range points {
			b := impl.Around([]impl.Mark{{Id: 1, At: a}})
			if !sameBox(b, boxOf(a, a)) {
				t.Fatalf("Around of %v alone is %v", a, b)
			}
			for _, p := range points {
				if far := impl.Far(a, p); impl.ToBox(b, p) != far || impl.Corner(b, p) != far || impl.Inside(b, p) != (far == 0) {
					t.Fatalf("%v, %v: %d %d, not %d", b, p, impl.ToBox(b, p), impl.Corner(b, p), far)
				}
			}
		}
	}
}

// noPlace asks for the fixed answers of a box and a point.
func noPlace(t *testing.T, b impl.Box, p []int64) {
	t.Helper()
	if impl.Inside(b, p) {
		t.Errorf("Inside(%v, %v) is true", b, p)
	}
	if g := impl.ToBox(b, p); g != -1 {
		t.Errorf("ToBox(%v, %v) = %d", b, p, g)
	}
	if g := impl.Corner(b, p); g != -1 {
		t.Errorf("Corner(%v, %v) = %d", b, p, g)
	}
}

func TestBoxWrongPlace(t *testing.T) {
	for n := 1; n <= 4; n++ {
		all := boxOf(slices.Repeat([]int64{-1000}, n), slices.Repeat([]int64{1000}, n))
		nought := boxOf(make([]int64, n), make([]int64, n))
		for _, b := range []impl.Box{all, nought} {
			for other := range 7 {
				if other != n {
					noPlace(t, b, make([]int64, other))
				}
			}
			for _, p := range noPoints() {
				noPlace(t, b, p)
			}
			for i := range n {
				for _, x := range []int64{-1001, 1001, 1 << 32, -1 << 32, least, greatest} {
					noPlace(t, b, with(make([]int64, n), i, x))
				}
			}
			if !impl.Inside(b, make([]int64, n)) {
				t.Errorf("the right place is not inside %v", b)
			}
		}
	}
}

func TestPlaceInWrongBox(t *testing.T) {
	for _, b := range noBoxes() {
		for n := range 6 {
			noPlace(t, b, make([]int64, n))
		}
		noPlace(t, b, b.Low)
		noPlace(t, b, b.High)
		for _, p := range noPoints() {
			noPlace(t, b, p)
		}
	}
}

func TestSharedOrdinary(t *testing.T) {
	two := boxOf([]int64{0, 0}, []int64{9, 9})
	for _, c := range []struct {
		a, b, want impl.Box
		is         bool
	}{
		{boxOf([]int64{-3}, []int64{4}), boxOf([]int64{1}, []int64{9}), boxOf([]int64{1}, []int64{4}), true},
		{boxOf([]int64{-3}, []int64{4}), boxOf([]int64{-1}, []int64{2}), boxOf([]int64{-1}, []int64{2}), true},
		// An end alone; apart by one.
		{boxOf([]int64{-3}, []int64{4}), boxOf([]int64{4}, []int64{9}), boxOf([]int64{4}, []int64{4}), true},
		{boxOf([]int64{-3}, []int64{4}), boxOf([]int64{5}, []int64{9}), impl.Box{}, false},
		{two, boxOf([]int64{5, 5}, []int64{20, 6}), boxOf([]int64{5, 5}, []int64{9, 6}), true},
		{two, boxOf([]int64{10, 0}, []int64{11, 0}), impl.Box{}, false},
		{two, boxOf([]int64{0, 10}, []int64{9, 11}), impl.Box{}, false},
		{two, boxOf([]int64{-5, 0}, []int64{-1, 9}), impl.Box{}, false},
		{two, boxOf([]int64{0, -5}, []int64{9, -1}), impl.Box{}, false},
		{two, boxOf([]int64{9, 9}, []int64{20, 20}), boxOf([]int64{9, 9}, []int64{9, 9}), true},
		{two, boxOf([]int64{-9, 9}, []int64{0, 20}), boxOf([]int64{0, 9}, []int64{0, 9}), true},
		{two, boxOf([]int64{9, -5}, []int64{20, 20}), boxOf([]int64{9, 0}, []int64{9, 9}), true},
		{two, two, two, true},
		// Each crosses the other; no corner of one is in the other.
		{boxOf([]int64{-9, -1, 0}, []int64{9, 1, 0}), boxOf([]int64{-1, -9, -9}, []int64{1, 9, 9}), boxOf([]int64{-1, -1, 0}, []int64{1, 1, 0}), true},
		// Apart in the last number only.
		{boxOf([]int64{1, 2, 3, 4}, []int64{5, 6, 7, 8}), boxOf([]int64{1, 2, 3, 9}, []int64{5, 6, 7, 9}), impl.Box{}, false},
		{boxOf([]int64{1, 2, 3, 4}, []int64{5, 6, 7, 8}), boxOf([]int64{1, 2, 3, 8}, []int64{5, 6, 7, 9}), boxOf([]int64{1, 2, 3, 8}, []int64{5, 6, 7, 8}), true},
		{boxOf([]int64{-1000, -1000}, []int64{1000, 1000}), boxOf([]int64{-1000, 1000}, []int64{-1000, 1000}), boxOf([]int64{-1000, 1000}, []int64{-1000, 1000}), true},
	} {
		for range 2 {
			if g, is := impl.Shared(c.a, c.b); is != c.is || !sameBox(g, c.want) {
				t.Errorf("Shared(%v, %v) = %v, %t, not %v, %t", c.a, c.b, g, is, c.want, c.is)
			}
			c.a, c.b = c.b, c.a
		}
	}
}

// Promise 4: a point is inside what is Shared exactly where it is inside both.
func TestSharedIsWhatIsInBoth(t *testing.T) {
	for n := 1; n <= 3; n++ {
		numbers := [][]int64{{-3, -2, 0, 1, 3}, {-1, 0, 2}, {-1, 1}}[n-1]
		boxes := boxesOf(n, numbers...)
		points := allOf(n, -4, -3, -2, -1, 0, 1, 2, 3, 4)
		if n == 3 {
			points = allOf(n, -2, -1, 0, 1, 2)
		}
		for _, a := range boxes {
			for _, b := range boxes {
				inBoth(t, a, b, points)
			}
		}
	}
}

// inBoth asks one pair of boxes against all of these points, in which their
// ends are.
func inBoth(t *testing.T, a, b impl.Box, points [][]int64) {
	t.Helper()
	shared, is := impl.Shared(a, b)
	if is != impl.BoxOk(shared) || !is && !isZero(shared) {
		t.Fatalf("Shared(%v, %v) = %v, %t", a, b, shared, is)
	}
	some := false
	for _, p := range points {
		both := impl.Inside(a, p) && impl.Inside(b, p)
		some = some || both
		if impl.Inside(shared, p) != both {
			t.Fatalf("Shared(%v, %v) = %v, %t: %v is inside both: %t", a, b, shared, is, p, both)
		}
	}
	if some != is {
		t.Fatalf("Shared(%v, %v) = %v, %t: of the points some are in both: %t", a, b, shared, is, some)
	}
}

// Promise 4 of boxes of 4 numbers, and of wide ones: with every point that is
// made of their ends and of what lies beside these.
func TestSharedIsWhatIsInBothWide(t *testing.T) {
	next := walkOf(45)
	for n := 1; n <= 4; n++ {
		for _, wide := range []int64{1, 4, 1000} {
			for range 50 {
				a, b := impl.Around(someMarks(next, 2, n, wide)), impl.Around(someMarks(next, 2, n, wide))
				points := [][]int64{{}}
				for i := range n {
					ends := []int64{a.Low[i], a.High[i], b.Low[i], b.High[i], max(a.Low[i], b.Low[i]) - 1, min(a.High[i], b.High[i]) + 1}
					var longer [][]int64
					for _, p := range points {
						for _, x := range ends {
							longer = append(longer, append(slices.Clone(p), x))
						}
					}
					points = longer
				}
				inBoth(t, a, b, points)
				inBoth(t, b, a, points)
			}
		}
	}
}

// Boxes that share all but one number, in which they are apart by one, or
// have an end alone.
func TestSharedApartInOne(t *testing.T) {
	for n := 1; n <= 4; n++ {
		low, high := slices.Repeat([]int64{-5}, n), slices.Repeat([]int64{5}, n)
		a := boxOf(low, high)
		for i := range n {
			for _, c := range []struct {
				low, high int64
				is        bool
			}{{6, 9, false}, {5, 9, true}, {-9, -6, false}, {-9, -5, true}} {
				b := boxOf(with(low, i, c.low), with(high, i, c.high))
				want := impl.Box{}
				if c.is {
					want = boxOf(with(low, i, max(c.low, -5)), with(high, i, min(c.high, 5)))
				}
				for range 2 {
					if g, is := impl.Shared(a, b); is != c.is || !sameBox(g, want) {
						t.Errorf("Shared(%v, %v) = %v, %t, not %v, %t", a, b, g, is, want, c.is)
					}
					a, b = b, a
				}
			}
		}
	}
}

// notShared asks for the fixed answer, whichever of the two comes first.
func notShared(t *testing.T, a, b impl.Box) {
	t.Helper()
	for range 2 {
		if g, is := impl.Shared(a, b); is || !isZero(g) {
			t.Errorf("Shared(%v, %v) = %v, %t", a, b, g, is)
		}
		a, b = b, a
	}
}

func TestSharedWrong(t *testing.T) {
	var rights []impl.Box
	for n := 1; n <= 4; n++ {
		rights = append(rights, boxOf(slices.Repeat([]int64{-1000}, n), slices.Repeat([]int64{1000}, n)), boxOf(make([]int64, n), make([]int64, n)))
	}
	for _, a := range rights {
		for _, b := range rights {
			if len(a.Low) != len(b.Low) {
				notShared(t, a, b)
			}
		}
		for _, b := range noBoxes() {
			notShared(t, a, b)
		}
	}
	for _, a := range noBoxes() {
		notShared(t, a, a)
		for _, b := range noBoxes() {
			notShared(t, a, b)
		}
	}
}

// roomyBox is the box with spare room behind both ends, and a look at the
// whole of that memory.
func roomyBox(b impl.Box) (impl.Box, func() []int64) {
	low, wholeLow := roomy(b.Low)
	high, wholeHigh := roomy(b.High)
	return boxOf(low, high), func() []int64 { return slices.Concat(wholeLow, wholeHigh) }
}

// spoilNumbers writes over an answer's list and the room behind it.
func spoilNumbers(list []int64) {
	list = list[:cap(list)]
	for i := range list {
		list[i] = -77
	}
}

func spoilBox(b impl.Box) {
	spoilNumbers(b.Low)
	spoilNumbers(b.High)
}

func TestBoxArgumentsStay(t *testing.T) {
	points := append(noPoints(), []int64{3}, []int64{-1000}, []int64{1, -2}, []int64{3, 4, -5}, []int64{1, 2, 3, -4})
	boxes := append(noBoxes(), someBoxes(1)...)
	for n := 2; n <= 4; n++ {
		boxes = append(boxes, boxOf(slices.Repeat([]int64{-2}, n), slices.Repeat([]int64{9}, n)), boxOf(slices.Repeat([]int64{4}, n), slices.Repeat([]int64{4}, n)))
	}
	for _, one := range boxes {
		a, lookA := roomyBox(one)
		keptA := lookA()
		for _, at := range points {
			p, whole := roomy(at)
			kept := slices.Clone(whole)
			impl.BoxOk(a)
			impl.Inside(a, p)
			impl.ToBox(a, p)
			impl.Corner(a, p)
			if !slices.Equal(lookA(), keptA) || !slices.Equal(whole, kept) {
				t.Fatalf("%v, %v became %v, %v", keptA, kept, lookA(), whole)
			}
		}
		for _, other := range boxes {
			b, lookB := roomyBox(other)
			keptB := lookB()
			for _, pair := range [][2]impl.Box{{a, b}, {b, a}, {a, a}} {
				shared, _ := impl.Shared(pair[0], pair[1])
				spoilBox(shared)
			}
			if !slices.Equal(lookA(), keptA) || !slices.Equal(lookB(), keptB) {
				t.Fatalf("%v, %v became %v, %v", keptA, keptB, lookA(), lookB())
			}
		}
	}
}

// Low and High of one box may be one list.
func TestBoxOfOneList(t *testing.T) {
	p, whole := roomy([]int64{3, -4})
	b := boxOf(p, p)
	if !impl.BoxOk(b) || !impl.Inside(b, p) || impl.ToBox(b, p) != 0 || impl.Corner(b, p) != 0 {
		t.Error(b)
	}
	shared, is := impl.Shared(b, b)
	if !is || !sameBox(shared, b) {
		t.Error(shared, is)
	}
	spoilNumbers(shared.Low)
	if !slices.Equal(shared.High, []int64{3, -4}) || !slices.Equal(whole, []int64{3, -4, 71, 72, 73, 74, 75}) {
		t.Error(shared, whole)
	}
}

func TestAroundMarksStay(t *testing.T) {
	for _, marks := range append(manyMarks(), noMarks()...) {
		list, whole := roomyMarks(marks)
		kept := memory(whole)
		spoilBox(impl.Around(list))
		if !slices.Equal(memory(whole), kept) {
			t.Fatalf("%v became %v", marks, list)
		}
	}
}

// Both ends are memory of their own, apart from the marks and from another
// answer, also of one mark alone.
func TestAroundIsNew(t *testing.T) {
	for _, count := range []int{1, 2, 3, 12} {
		list := someMarks(walkOf(46), count, 3, 9)
		first, second := impl.Around(list), impl.Around(list)
		low, high := slices.Clone(first.Low), slices.Clone(first.High)
		spoilNumbers(first.Low)
		if !slices.Equal(first.High, high) {
			t.Errorf("of %d marks Low and High share", count)
		}
		spoilNumbers(first.High)
		for _, m := range list {
			spoilNumbers(m.At)
		}
		if !sameBox(second, boxOf(low, high)) {
			t.Errorf("of %d marks %v became %v", count, boxOf(low, high), second)
		}
	}
}

func TestSharedIsNew(t *testing.T) {
	a, b := boxOf([]int64{0, 0}, []int64{9, 9}), boxOf([]int64{-5, 5}, []int64{9, 20})
	want := boxOf([]int64{0, 5}, []int64{9, 9})
	first, _ := impl.Shared(a, b)
	second, _ := impl.Shared(a, b)
	whole, _ := impl.Shared(a, a)
	spoilNumbers(first.Low)
	if !slices.Equal(first.High, want.High) {
		t.Error("Low and High share")
	}
	spoilNumbers(first.High)
	spoilBox(a)
	spoilBox(b)
	if !sameBox(second, want) || !sameBox(whole, boxOf([]int64{0, 0}, []int64{9, 9})) {
		t.Error(second, whole)
	}
}
