package tests

import (
	"cmp"
	"slices"
	"testing"

	"loop.example/g00273/impl"
)

func ball(id, radius, near, apart int64, at ...int64) impl.Ball {
	return impl.Ball{Mark: impl.Mark{Id: id, At: at}, Radius: radius, Near: near, Apart: apart}
}

func sameBalls(a, b []impl.Ball) bool {
	return slices.EqualFunc(a, b, func(x, y impl.Ball) bool {
		return sameMark(x.Mark, y.Mark) && x.Radius == y.Radius && x.Near == y.Near && x.Apart == y.Apart
	})
}

// copyBalls is memory of its own, each At too.
func copyBalls(list []impl.Ball) []impl.Ball {
	own := slices.Clone(list)
	for i, b := range own {
		own[i].Mark.At = slices.Clone(b.Mark.At)
	}
	return own
}

// ballsOf are the balls of right marks by the document's words; each part is
// told where its first ball stands, and so where those below it do.
func ballsOf(list []impl.Mark) []impl.Ball {
	balls := make([]impl.Ball, len(list))
	var fill func(part []impl.Mark, at int64)
	fill = func(part []impl.Mark, at int64) {
		if len(part) == 0 {
			return
		}
		b := impl.Ball{Mark: part[0], Near: -1, Apart: -1}
		others := slices.Clone(part[1:])
		slices.SortFunc(others, func(x, y impl.Mark) int {
			return cmp.Or(cmp.Compare(apart(x.At, b.Mark.At, impl.BySteps), apart(y.At, b.Mark.At, impl.BySteps)), cmp.Compare(x.Id, y.Id))
		})
		half := len(others) - len(others)/2
		for _, m := range others[:half] {
			b.Near = at + 1
			b.Radius = max(b.Radius, apart(m.At, b.Mark.At, impl.BySteps))
		}
		if half < len(others) {
			b.Apart = at + 1 + int64(half)
		}
		balls[at] = b
		fill(others[:half], at+1)
		fill(others[half:], at+1+int64(half))
	}
	fill(list, 0)
	return balls
}

// ringMarks has marks all alike in Steps from the first one, in other places,
// and marks that are nearer or farther the greater their Id is.
func ringMarks() [][]impl.Mark {
	lists := [][]impl.Mark{}
	for n := 1; n <= 4; n++ {
		for _, count := range []int{2, 3, 4, 5, 8, 9, 16, 17, 30, impl.MaxMarks} {
			ring := marksOf(risingIds(4, count), make([]int64, n)...)
			falling := marksOf(risingIds(1, count), slices.Repeat([]int64{-3}, n)...)
			turned := marksOf(risingIds(impl.MaxId-impl.MaxMarks, count), make([]int64, n)...)
			for i := 1; i < count; i++ {
				sign := int64(1 - 2*(i%2))
				part := int64(i % 13)
				ring[i].At[i%n] += sign * part
				ring[i].At[(i+1)%n] += sign * (12 - part)
				if n == 1 {
					ring[i].At[0] = sign * 12
				}
				falling[i].At[i%n] += int64(count - i)
				turned[i].At[i%n] = sign * int64(i) * 3
			}
			lists = append(lists, ring, falling, turned)
		}
	}
	return lists
}

// ballMarks are all lists of marks that the tests of this chapter go through.
func ballMarks() [][]impl.Mark { return slices.Concat(eachMarks(), ringMarks()) }

// The lists are what their words say: a ring is one.
func TestRingMarks(t *testing.T) {
	for i, list := range ringMarks() {
		if !impl.MarksOk(list) {
			t.Fatalf("no marks: %v", list)
		}
		for j, m := range list[1:] {
			steps := apart(m.At, list[0].At, impl.BySteps)
			if i%3 == 0 && steps != 12 || i%3 == 1 && steps != int64(len(list)-1-j) || i%3 == 2 && steps != int64(3*j+3) {
				t.Fatalf("%v: %d is %d from the first", list, m.Id, steps)
			}
		}
	}
}

func TestBallsOrdinary(t *testing.T) {
	for _, c := range []struct {
		list []impl.Mark
		want []impl.Ball
	}{
		{[]impl.Mark{{Id: 9, At: []int64{-4}}}, []impl.Ball{ball(9, 0, -1, -1, -4)}},
		{[]impl.Mark{{Id: 2, At: []int64{5}}, {Id: 4, At: []int64{-3}}}, []impl.Ball{ball(2, 8, 1, -1, 5), ball(4, 0, -1, -1, -3)}},
		// Two others: one is Near, one Apart, whichever Id is less.
		{[]impl.Mark{{Id: 2, At: []int64{5}}, {Id: 4, At: []int64{-3}}, {Id: 6, At: []int64{1}}}, []impl.Ball{ball(2, 4, 1, 2, 5), ball(6, 0, -1, -1, 1), ball(4, 0, -1, -1, -3)}},
		{[]impl.Mark{{Id: 2, At: []int64{5}}, {Id: 4, At: []int64{1}}, {Id: 6, At: []int64{-3}}}, []impl.Ball{ball(2, 4, 1, 2, 5), ball(4, 0, -1, -1, 1), ball(6, 0, -1, -1, -3)}},
		// Three others: two are Near.
		{[]impl.Mark{{Id: 1, At: []int64{0, 0}}, {Id: 2, At: []int64{3, 4}}, {Id: 3, At: []int64{1, 0}}, {Id: 5, At: []int64{9, 9}}},
			[]impl.Ball{ball(1, 7, 1, 3, 0, 0), ball(3, 6, 2, -1, 1, 0), ball(2, 0, -1, -1, 3, 4), ball(5, 0, -1, -1, 9, 9)}},
		// By Steps 3 is farther than 2; by Far and by Reach it is nearer.
		{[]impl.Mark{{Id: 1, At: []int64{0, 0}}, {Id: 2, At: []int64{7, 0}}, {Id: 3, At: []int64{4, 4}}}, []impl.Ball{ball(1, 7, 1, 2, 0, 0), ball(2, 0, -1, -1, 7, 0), ball(3, 0, -1, -1, 4, 4)}},
		// What is below is ordered anew by Steps from the first of its part: 5
		// is nearest to 2, though 4 and 3 are nearer to 1.
		{[]impl.Mark{{Id: 1, At: []int64{0}}, {Id: 2, At: []int64{10}}, {Id: 3, At: []int64{-12}}, {Id: 4, At: []int64{-11}}, {Id: 5, At: []int64{13}}, {Id: 6, At: []int64{100}}, {Id: 7, At: []int64{90}}, {Id: 8, At: []int64{-95}}},
			[]impl.Ball{ball(1, 13, 1, 5, 0), ball(2, 21, 2, 4, 10), ball(5, 24, 3, -1, 13), ball(4, 0, -1, -1, -11), ball(3, 0, -1, -1, -12),
				ball(7, 10, 6, 7, 90), ball(6, 0, -1, -1, 100), ball(8, 0, -1, -1, -95)}},
		{[]impl.Mark{{Id: 1, At: []int64{-1000, -1000, -1000, -1000}}, {Id: 2, At: []int64{1000, 1000, 1000, 1000}}, {Id: 1000000, At: []int64{1000, 1000, 1000, 999}}},
			[]impl.Ball{ball(1, 7999, 1, 2, -1000, -1000, -1000, -1000), ball(1000000, 0, -1, -1, 1000, 1000, 1000, 999), ball(2, 0, -1, -1, 1000, 1000, 1000, 1000)}},
		{[]impl.Mark{{Id: 3, At: []int64{0, 0, 1}}, {Id: 7, At: []int64{0, 2, 0}}, {Id: 8, At: []int64{-1, 0, 0}}}, []impl.Ball{ball(3, 2, 1, 2, 0, 0, 1), ball(8, 0, -1, -1, -1, 0, 0), ball(7, 0, -1, -1, 0, 2, 0)}},
		// Of alike Steps the lesser Id is ahead.
		{[]impl.Mark{{Id: 1, At: []int64{0}}, {Id: 2, At: []int64{6}}, {Id: 3, At: []int64{-6}}}, []impl.Ball{ball(1, 6, 1, 2, 0), ball(2, 0, -1, -1, 6), ball(3, 0, -1, -1, -6)}},
		{marksOf([]int64{3, 5, 8, 9}, 4, 4), []impl.Ball{ball(3, 0, 1, 3, 4, 4), ball(5, 0, 2, -1, 4, 4), ball(8, 0, -1, -1, 4, 4), ball(9, 0, -1, -1, 4, 4)}},
		{[]impl.Mark{{Id: 1, At: []int64{0, 0}}, {Id: 2, At: []int64{0, 3}}, {Id: 3, At: []int64{1, -2}}, {Id: 4, At: []int64{-3, 0}}, {Id: 5, At: []int64{2, 1}}},
			[]impl.Ball{ball(1, 3, 1, 3, 0, 0), ball(2, 6, 2, -1, 0, 3), ball(3, 0, -1, -1, 1, -2), ball(4, 6, 4, -1, -3, 0), ball(5, 0, -1, -1, 2, 1)}},
	} {
		g := impl.Balls(c.list)
		if !sameBalls(g, c.want) {
			t.Errorf("Balls(%v) = %v, not %v", c.list, g, c.want)
		}
		if !impl.BallsOk(c.want) {
			t.Errorf("BallsOk(%v) is false", c.want)
		}
	}
}

func TestBallsByItsWords(t *testing.T) {
	for _, list := range ballMarks() {
		g := impl.Balls(list)
		if want := ballsOf(list); !sameBalls(g, want) {
			t.Fatalf("Balls(%v) = %v, not %v", list, g, want)
		}
		if !impl.BallsOk(g) {
			t.Fatalf("BallsOk(%v) is false", g)
		}
	}
}

// ballsBelow are the numbers of all balls from this one down.
func ballsBelow(list []impl.Ball, at int64) []int64 {
	if at == -1 {
		return nil
	}
	return slices.Concat([]int64{at}, ballsBelow(list, list[at].Near), ballsBelow(list, list[at].Apart))
}

// A ball stands ahead of all below it, each once; none in Near is farther
// than Radius, none in Apart nearer, and Near has as many or one more.
func TestBallsParts(t *testing.T) {
	for _, list := range ballMarks() {
		balls := impl.Balls(list)
		if len(balls) != len(list) {
			t.Fatalf("%d balls of %v", len(balls), list)
		}
		if len(list) == 0 {
			continue
		}
		if !sameMark(balls[0].Mark, list[0]) {
			t.Fatalf("%v: the first is no ball of %v", balls, list[0])
		}
		if all := ballsBelow(balls, 0); !slices.Equal(all, risingIds(0, len(list))) {
			t.Fatalf("%v: from the first down there are %v", balls, all)
		}
		for _, b := range balls {
			near, far := ballsBelow(balls, b.Near), ballsBelow(balls, b.Apart)
			if len(near) != len(far) && len(near) != len(far)+1 {
				t.Fatalf("%v: %d and %d below %d", balls, len(near), len(far), b.Mark.Id)
			}
			greatestNear := int64(0)
			for _, at := range near {
				greatestNear = max(greatestNear, apart(b.Mark.At, balls[at].Mark.At, impl.BySteps))
			}
			if b.Radius != greatestNear {
				t.Fatalf("%v: the Radius of %d is not %d", balls, b.Mark.Id, greatestNear)
			}
			for _, at := range far {
				if apart(b.Mark.At, balls[at].Mark.At, impl.BySteps) < b.Radius {
					t.Fatalf("%v: %d is not Apart of %d", balls, at, b.Mark.Id)
				}
			}
		}
	}
}

// nearestOf is the Id and the Steps of the nearest by looking at all marks.
func nearestOf(list []impl.Mark, q []int64) (int64, int64) {
	id, steps := int64(0), int64(-1)
	for _, m := range list {
		s := apart(m.At, q, impl.BySteps)
		if steps == -1 || s < steps || s == steps && m.Id < id {
			id, steps = m.Id, s
		}
	}
	return id, steps
}

// sparedOf counts by the document's words over balls that ballsOf makes.
func sparedOf(balls []impl.Ball, q []int64) int64 {
	spared, nearest := int64(0), int64(greatest)
	var look func(at int64)
	look = func(at int64) {
		if at == -1 {
			return
		}
		b := balls[at]
		steps := apart(b.Mark.At, q, impl.BySteps)
		nearest = min(nearest, steps)
		if steps-b.Radius > nearest {
			spared += int64(len(ballsBelow(balls, b.Near)))
		} else {
			look(b.Near)
		}
		if b.Radius-steps > nearest {
			spared += int64(len(ballsBelow(balls, b.Apart)))
		} else {
			look(b.Apart)
		}
	}
	if len(balls) > 0 {
		look(0)
	}
	return spared
}

// byItsWords asks Closest (promise 6) and Spared of one list at each point.
func byItsWords(t *testing.T, list []impl.Mark, points ...[]int64) {
	t.Helper()
	balls, words := impl.Balls(list), ballsOf(list)
	for _, q := range points {
		wantId, wantSteps := nearestOf(list, q)
		if id, steps := impl.Closest(balls, q); id != wantId || steps != wantSteps {
			t.Fatalf("Closest(%v, %v) = %d, %d, not %d, %d", balls, q, id, steps, wantId, wantSteps)
		}
		if g, want := impl.Spared(balls, q), sparedOf(words, q); g != want {
			t.Fatalf("Spared(%v, %v) = %d, not %d", balls, q, g, want)
		}
	}
}

// about are points that are each mark in turn, beside it, and between it and
// the next one.
func about(list []impl.Mark) [][]int64 {
	points := [][]int64{}
	for i, m := range list {
		j := i % len(m.At)
		points = append(points, m.At)
		for _, beside := range []int64{-1, 1} {
			if x := m.At[j] + beside; x >= -1000 && x <= 1000 {
				points = append(points, with(m.At, j, x))
			}
		}
		middle := slices.Clone(m.At)
		for j, x := range list[(i+1)%len(list)].At {
			middle[j] = (middle[j] + x) / 2
		}
		points = append(points, middle)
	}
	return points
}

// outside are points beyond all marks on one side, for each number both sides.
func outside(list []impl.Mark, n int) [][]int64 {
	points := [][]int64{}
	for i := range n {
		for _, x := range []int64{-1000, 1000} {
			points = append(points, with(make([]int64, n), i, x))
			if len(list) > 0 {
				points = append(points, with(list[0].At, i, x), with(list[len(list)/2].At, i, x))
			}
		}
	}
	return points
}

// Promise 6: what Closest tells is the nearest of all marks, whatever is spared.
func TestClosestIsTheNearest(t *testing.T) {
	next := walkOf(6)
	for _, list := range ballMarks() {
		n := long(list)
		byItsWords(t, list, slices.Concat(places(next, list, n), about(list), outside(list, n))...)
	}
}

// Promise 6 with many points about few and many close marks, where most are
// alike near and the Id decides.
func TestClosestIsTheNearestClose(t *testing.T) {
	next := walkOf(66)
	for n := 1; n <= 4; n++ {
		for range 400 {
			wide := 1 + next(30)
			list := someMarks(next, int(1+next(impl.MaxMarks)), n, wide)
			points := make([][]int64, 20)
			for i := range points {
				for range n {
					points[i] = append(points[i], next(2*wide+7)-wide-3)
				}
			}
			byItsWords(t, list, points...)
		}
	}
}

// Promise 6 at every point about few marks.
func TestClosestIsTheNearestEach(t *testing.T) {
	next := walkOf(67)
	for n := 1; n <= 2; n++ {
		for count := 1; count <= 9; count++ {
			for range 25 {
				byItsWords(t, someMarks(next, count, n, 4), allOf(n, -6, -5, -4, -3, -2, -1, 0, 1, 2, 3, 4, 5, 6)...)
			}
		}
	}
}

func TestClosestOrdinary(t *testing.T) {
	list := []impl.Mark{{Id: 1, At: []int64{0, 0}}, {Id: 2, At: []int64{3, 4}}, {Id: 3, At: []int64{1, 0}}, {Id: 5, At: []int64{9, 9}}, {Id: 8, At: []int64{0, 0}}, {Id: 9, At: []int64{4, 4}}, {Id: 11, At: []int64{7, 0}}}
	balls := impl.Balls(list)
	for _, c := range []struct {
		q         []int64
		id, steps int64
	}{
		// Marks: 1 and 8 are in one place.
		{[]int64{0, 0}, 1, 0}, {[]int64{3, 4}, 2, 0}, {[]int64{1, 0}, 3, 0}, {[]int64{9, 9}, 5, 0}, {[]int64{4, 4}, 9, 0}, {[]int64{7, 0}, 11, 0},
		// Between marks: 4 0 is 3 from 3 and 11, and 4 from 1 and 8.
		{[]int64{8, 8}, 5, 2}, {[]int64{4, 0}, 3, 3}, {[]int64{5, 0}, 11, 2}, {[]int64{0, 1}, 1, 1}, {[]int64{3, 5}, 2, 1}, {[]int64{4, 5}, 9, 1},
		// By Far 9 is nearer to 6 2 than 11; by Steps 11 is.
		{[]int64{6, 2}, 11, 3}, {[]int64{7, 3}, 11, 3},
		// Outside on each side.
		{[]int64{-1000, 0}, 1, 1000}, {[]int64{1000, 0}, 11, 993}, {[]int64{0, -1000}, 1, 1000}, {[]int64{0, 1000}, 2, 999},
		{[]int64{-1000, -1000}, 1, 2000}, {[]int64{1000, 1000}, 5, 1982}, {[]int64{-1000, 1000}, 2, 1999}, {[]int64{1000, -1000}, 11, 1993},
	} {
		if id, steps := impl.Closest(balls, c.q); id != c.id || steps != c.steps {
			t.Errorf("Closest by %v = %d, %d, not %d, %d", c.q, id, steps, c.id, c.steps)
		}
	}
	for n := 1; n <= 4; n++ {
		at := slices.Repeat([]int64{1000}, n)
		one := impl.Balls([]impl.Mark{{Id: impl.MaxId, At: at}})
		if id, steps := impl.Closest(one, slices.Repeat([]int64{-1000}, n)); id != impl.MaxId || steps != int64(2000*n) {
			t.Errorf("of one alone %d, %d", id, steps)
		}
	}
}

// What is just as near as the nearest till then is not left out, so that it
// is found where its Id is less.
func TestClosestAlikeInWhatIsNotLeftOut(t *testing.T) {
	for _, c := range []struct {
		list      []impl.Mark
		q         []int64
		id, steps int64
	}{
		// 2 is alone in the Near of 3: 10 less 9 is the 1 that 4 is away.
		{[]impl.Mark{{Id: 1, At: []int64{0, 0}}, {Id: 2, At: []int64{10, 1}}, {Id: 3, At: []int64{5, 5}}, {Id: 4, At: []int64{9, 0}}, {Id: 5, At: []int64{-1, 0}}}, []int64{10, 0}, 2, 1},
		// 3 is in the Apart of 1: 6 less 5 is the 1 that 9 is away.
		{[]impl.Mark{{Id: 1, At: []int64{0}}, {Id: 2, At: []int64{-6}}, {Id: 3, At: []int64{6}}, {Id: 8, At: []int64{100}}, {Id: 9, At: []int64{4}}}, []int64{5}, 3, 1},
	} {
		if id, steps := impl.Closest(impl.Balls(c.list), c.q); id != c.id || steps != c.steps {
			t.Errorf("Closest(%v, %v) = %d, %d, not %d, %d", c.list, c.q, id, steps, c.id, c.steps)
		}
	}
}

func TestSparedOrdinary(t *testing.T) {
	one := []impl.Mark{{Id: 1, At: []int64{0}}, {Id: 2, At: []int64{10}}, {Id: 3, At: []int64{20}}}
	two := []impl.Mark{{Id: 1, At: []int64{0, 0}}, {Id: 2, At: []int64{3, 4}}, {Id: 3, At: []int64{1, 0}}, {Id: 5, At: []int64{9, 9}}}
	for _, c := range []struct {
		list []impl.Mark
		q    []int64
		want int64
	}{
		{one[:1], []int64{0}, 0}, {one[:1], []int64{1000}, 0}, {one[:1], []int64{-1000}, 0},
		// Two: one is Near, and the first one's Near is never left out.
		{one[:2], []int64{0}, 0}, {one[:2], []int64{10}, 0}, {one[:2], []int64{-1000}, 0}, {one[:2], []int64{1000}, 0},
		// Three: 3 is Apart, 10 less Steps from 1.
		{one, []int64{0}, 1}, {one, []int64{4}, 1}, {one, []int64{5}, 0}, {one, []int64{9}, 0}, {one, []int64{10}, 0}, {one, []int64{20}, 0}, {one, []int64{1000}, 0},
		{one, []int64{-4}, 1}, {one, []int64{-5}, 0}, {one, []int64{-1000}, 0},
		{two, []int64{0, 0}, 1}, {two, []int64{1, 0}, 1}, {two, []int64{3, 4}, 0}, {two, []int64{9, 9}, 0}, {two, []int64{-1, -2}, 1}, {two, []int64{-1, -3}, 0},
		{two, []int64{1000, 1000}, 0}, {two, []int64{-1000, -1000}, 0}, {two, []int64{-1000, 1000}, 0},
	} {
		if g := impl.Spared(impl.Balls(c.list), c.q); g != c.want {
			t.Errorf("Spared(%v, %v) = %d, not %d", c.list, c.q, g, c.want)
		}
	}
}

// axisMarks has marks of n numbers, from Id 1 on, that are these numbers on
// one axis and nought on the others.
func axisMarks(n, axis int, numbers ...int64) []impl.Mark {
	list := marksOf(risingIds(1, len(numbers)), make([]int64, n)...)
	for i, x := range numbers {
		list[i].At[axis] = x
	}
	return list
}

// eachAxis asks for Spared on each axis of each length, both ways round.
func eachAxis(t *testing.T, q, want int64, numbers ...int64) {
	t.Helper()
	for n := 1; n <= 4; n++ {
		for axis := range n {
			for _, way := range []int64{1, -1} {
				turned := []int64{}
				for _, x := range numbers {
					turned = append(turned, way*x)
				}
				list := axisMarks(n, axis, turned...)
				place := with(make([]int64, n), axis, way*q)
				if g := impl.Spared(impl.Balls(list), place); g != want {
					t.Errorf("Spared(%v, %v) = %d, not %d", list, place, g, want)
				}
			}
		}
	}
}

// 4 is a ball with 5 in its Near: it is 12 from what is asked, 2 is 1 from it.
func TestSparedNearAtTheEdge(t *testing.T) {
	eachAxis(t, 2, 1, 0, 1, -1, -10, -11) // 12 less 1
	eachAxis(t, 2, 1, 0, 1, -1, -10, -19) // 12 less 9
	eachAxis(t, 2, 1, 0, 1, -1, -10, -20) // 12 less 10 is above 1
	eachAxis(t, 2, 0, 0, 1, -1, -10, -21) // 12 less 11 is 1
	eachAxis(t, 2, 0, 0, 1, -1, -10, -22) // 12 less 12
	eachAxis(t, 2, 0, 0, 1, -1, -10, 12)
	// 6 has 7 and 8 in its Near: both are left out, 12 less 2 is above 1, and
	// where 12 less 11 is not, only 8 is, for which 7 is too far.
	eachAxis(t, 2, 2, 0, 1, 1, 1, 1, -10, -11, -12, -30)
	eachAxis(t, 2, 1, 0, 1, 1, 1, 1, -10, -11, -21, -30)
}

// 4 and 5 are in the Apart of 1, whose Radius is 9.
func TestSparedApartAtTheEdge(t *testing.T) {
	eachAxis(t, 3, 2, 0, 3, -9, 9, 10) // 9 less 3 is above 0
	eachAxis(t, 2, 2, 0, 3, -9, 9, 10) // 9 less 2 is above 1
	eachAxis(t, 5, 2, 0, 3, -9, 9, 10) // 9 less 5 is above 2
	eachAxis(t, 6, 0, 0, 3, -9, 9, 10) // 9 less 6 is 3
	eachAxis(t, 7, 0, 0, 3, -9, 9, 10) // 9 less 7
	// From the other side it is the first one that is nearest.
	eachAxis(t, -4, 2, 0, 3, -9, 9, 10) // 9 less 4 is above 4
	eachAxis(t, -5, 1, 0, 3, -9, 9, 10) // 9 less 5 is 4, as far as 3 is
	// Radius is 0 where all in Near are in one's place: 0 less 0 is 0, so that
	// 4 is looked at, and only what is in its Near is not.
	eachAxis(t, 5, 1, 5, 5, 5, 900, 901)
	eachAxis(t, 5, 0, 5, 5, 5, 5, 5)
}

// What is found in Near first spares Apart; the other way round 4 would be
// looked at, and what is found in Apart comes too late for Near.
func TestSparedNearAheadOfApart(t *testing.T) {
	eachAxis(t, 3, 2, 0, 3, 4, 10, 11)
	eachAxis(t, 10, 0, 0, 3, 4, 10, 11)
}

func TestBallsOfNone(t *testing.T) {
	for _, none := range [][]impl.Mark{nil, {}, make([]impl.Mark, 0, 5)} {
		if g := impl.Balls(none); len(g) != 0 {
			t.Errorf("Balls of none = %v", g)
		}
	}
	for _, none := range [][]impl.Ball{nil, {}, make([]impl.Ball, 0, 5)} {
		if !impl.BallsOk(none) {
			t.Error("BallsOk of none is false")
		}
		for n := 1; n <= 4; n++ {
			if id, steps := impl.Closest(none, make([]int64, n)); id != 0 || steps != -1 {
				t.Errorf("Closest of none = %d, %d", id, steps)
			}
			if g := impl.Spared(none, make([]int64, n)); g != 0 {
				t.Errorf("Spared of none = %d", g)
			}
		}
		for _, q := range noPoints() {
			noneClosest(t, none, q)
		}
	}
}

func TestBallsWrong(t *testing.T) {
	for _, list := range noMarks() {
		if g := impl.Balls(list); len(g) != 0 {
			t.Errorf("Balls(%v) = %v", list, g)
		}
	}
}

// noneClosest asks for the fixed answers of Closest and Spared.
func noneClosest(t *testing.T, list []impl.Ball, q []int64) {
	t.Helper()
	if id, steps := impl.Closest(list, q); id != 0 || steps != -1 {
		t.Errorf("Closest(%v, %v) = %d, %d", list, q, id, steps)
	}
	if g := impl.Spared(list, q); g != -1 {
		t.Errorf("Spared(%v, %v) = %d", list, q, g)
	}
}

// noBalls asks for the fixed answers of balls that are not right.
func noBalls(t *testing.T, list []impl.Ball) {
	t.Helper()
	if impl.BallsOk(list) {
		t.Errorf("BallsOk(%v) is true", list)
	}
	for n := range 5 {
		noneClosest(t, list, make([]int64, n))
	}
	if len(list) > 0 {
		noneClosest(t, list, list[0].Mark.At)
	}
}

// ballsBeside are balls as this one is, but for one number of it that no
// right ball in its place can have.
func ballsBeside(list []impl.Ball, i int) []impl.Ball {
	b, end := list[i], int64(len(list))
	others := []impl.Ball{}
	for _, x := range []int64{b.Radius - 1, b.Radius + 1, -1, -b.Radius, 2*b.Radius + 2, 8001, least, greatest, 1<<32 + b.Radius} {
		if x != b.Radius {
			others = append(others, ball(b.Mark.Id, x, b.Near, b.Apart, b.Mark.At...))
		}
	}
	for _, x := range []int64{-2, -1, 0, int64(i), int64(i) + 1, int64(i) + 2, end - 1, end, end + 1, -end, least, greatest, 1<<32 + b.Near} {
		if x != b.Near {
			others = append(others, ball(b.Mark.Id, b.Radius, x, b.Apart, b.Mark.At...))
		}
		if x != b.Apart {
			others = append(others, ball(b.Mark.Id, b.Radius, b.Near, x, b.Mark.At...))
		}
	}
	if b.Near != b.Apart {
		others = append(others, ball(b.Mark.Id, b.Radius, b.Apart, b.Near, b.Mark.At...))
	}
	return append(others, ballsOfNoMark(b)...)
}

// ballsOfNoMark are balls as this one is, but for an Id that is none, or a
// place that is no point.
func ballsOfNoMark(b impl.Ball) []impl.Ball {
	others := []impl.Ball{}
	for _, id := range []int64{0, -1, -b.Mark.Id, impl.MaxId + 1, least, greatest, 1<<32 + b.Mark.Id} {
		others = append(others, ball(id, b.Radius, b.Near, b.Apart, b.Mark.At...))
	}
	for _, at := range noPoints() {
		others = append(others, ball(b.Mark.Id, b.Radius, b.Near, b.Apart, at...))
	}
	for j := range b.Mark.At {
		for _, x := range []int64{-1001, 1001, least, greatest} {
			others = append(others, ball(b.Mark.Id, b.Radius, b.Near, b.Apart, with(b.Mark.At, j, x)...))
		}
	}
	return others
}

func TestBallsOneIsWrong(t *testing.T) {
	for n := 1; n <= 4; n++ {
		for _, count := range []int{1, 2, 3, 4, 5, 8, 13} {
			list := impl.Balls(someMarks(walkOf(uint64(n)), count, n, 6))
			for i, b := range list {
				others := ballsBeside(list, i)
				for j, other := range list {
					if j != i {
						// Its Id, or all of it, stands there twice.
						others = append(others, other, ball(other.Mark.Id, b.Radius, b.Near, b.Apart, b.Mark.At...))
					}
				}
				if count > 1 {
					longer := append(slices.Clone(b.Mark.At), 0)
					others = append(others, ball(b.Mark.Id, b.Radius, b.Near, b.Apart, longer...), ball(b.Mark.Id, b.Radius, b.Near, b.Apart, longer[1:n]...))
				}
				for _, other := range others {
					wrong := copyBalls(list)
					wrong[i] = other
					noBalls(t, wrong)
				}
			}
			if !impl.BallsOk(list) {
				t.Errorf("the right one is refused: %v", list)
			}
		}
	}
}

// A mark that is in another place or has another Id is still right as long as
// Balls makes these balls of it, and else is not.
func TestBallsOfOtherMarks(t *testing.T) {
	next := walkOf(68)
	rights, wrongs := 0, 0
	for n := 1; n <= 4; n++ {
		for _, wide := range []int64{1, 5, 1000} {
			for range 300 {
				balls := copyBalls(impl.Balls(someMarks(next, int(1+next(9)), n, wide)))
				for range 1 + next(2) {
					m := &balls[next(int64(len(balls)))].Mark
					if next(2) == 0 {
						m.Id = 1 + next(60)
					} else {
						m.At[next(int64(n))] = next(2*wide+1) - wide
					}
				}
				marks := []impl.Mark{}
				for _, b := range balls {
					marks = append(marks, b.Mark)
				}
				slices.SortFunc(marks, func(a, b impl.Mark) int { return cmp.Compare(a.Id, b.Id) })
				if impl.MarksOk(marks) && sameBalls(ballsOf(marks), balls) {
					rights++
					if !impl.BallsOk(balls) {
						t.Fatalf("BallsOk(%v) is false", balls)
					}
				} else {
					wrongs++
					noBalls(t, balls)
				}
			}
		}
	}
	if rights < 100 || wrongs < 100 {
		t.Errorf("%d right ones and %d wrong ones", rights, wrongs)
	}
}

// Of marks in one place the Id alone tells which ball is which.
func TestBallsOfAlikeMarks(t *testing.T) {
	for _, count := range []int{2, 3, 6, 9} {
		list := impl.Balls(marksOf(risingIds(5, count), 1, 1))
		for i := range list {
			for j := range i {
				wrong := copyBalls(list)
				wrong[i].Mark.Id, wrong[j].Mark.Id = wrong[j].Mark.Id, wrong[i].Mark.Id
				noBalls(t, wrong)
			}
		}
	}
}

func TestBallsInAnotherOrder(t *testing.T) {
	for n := 1; n <= 4; n++ {
		for _, count := range []int{2, 3, 4, 7, 12} {
			list := impl.Balls(someMarks(walkOf(uint64(69+n)), count, n, 1000))
			for i := range list {
				for j := range i {
					wrong := copyBalls(list)
					wrong[i], wrong[j] = wrong[j], wrong[i]
					noBalls(t, wrong)
				}
			}
			wrong := copyBalls(list)
			slices.Reverse(wrong)
			noBalls(t, wrong)
		}
	}
}

// Trees that are right by another rule than the document's.
func TestBallsOfAnotherRule(t *testing.T) {
	if !impl.BallsOk([]impl.Ball{ball(1, 4, 1, 2, 0), ball(2, 0, -1, -1, 4), ball(3, 0, -1, -1, -5)}) {
		t.Error("the right one is refused")
	}
	// Apart ahead of Near, with their numbers set right again.
	noBalls(t, []impl.Ball{ball(1, 4, 2, 1, 0), ball(3, 0, -1, -1, -5), ball(2, 0, -1, -1, 4)})
	// Near has what is farther; Near has all; Apart has all.
	noBalls(t, []impl.Ball{ball(1, 5, 1, 2, 0), ball(3, 0, -1, -1, -5), ball(2, 0, -1, -1, 4)})
	noBalls(t, []impl.Ball{ball(1, 5, 1, -1, 0), ball(2, 9, 2, -1, 4), ball(3, 0, -1, -1, -5)})
	noBalls(t, []impl.Ball{ball(1, 0, -1, 1, 0), ball(2, 0, -1, 2, 4), ball(3, 0, -1, -1, -5)})
	// The first half is rounded down.
	noBalls(t, []impl.Ball{ball(1, 0, -1, 1, 0), ball(2, 0, -1, -1, 4)})
	noBalls(t, []impl.Ball{ball(1, 4, 1, 2, 0), ball(2, 0, -1, -1, 4), ball(3, 0, -1, 3, -5), ball(4, 0, -1, -1, 6)})
	// The first is not the one with the least Id.
	noBalls(t, []impl.Ball{ball(2, 4, 1, 2, 4), ball(1, 0, -1, -1, 0), ball(3, 0, -1, -1, -5)})
	// Radius is that of Apart, or by Far or by Reach.
	noBalls(t, []impl.Ball{ball(1, 5, 1, 2, 0), ball(2, 0, -1, -1, 4), ball(3, 0, -1, -1, -5)})
	noBalls(t, []impl.Ball{ball(1, 25, 1, -1, 0, 0), ball(2, 0, -1, -1, 3, 4)})
	noBalls(t, []impl.Ball{ball(1, 4, 1, -1, 0, 0), ball(2, 0, -1, -1, 3, 4)})
	// Ways that come back.
	noBalls(t, []impl.Ball{ball(2, 0, 0, 0, 0)})
	noBalls(t, []impl.Ball{ball(1, 5, 1, -1, 0), ball(2, 0, 0, 0, -5)})
	noBalls(t, []impl.Ball{{}})
	noBalls(t, make([]impl.Ball, 3))
}

func TestBallsTooManyOrTooFew(t *testing.T) {
	for n := 1; n <= 4; n++ {
		for _, count := range []int{2, 3, 4, 7, 12, impl.MaxMarks} {
			marks := someMarks(walkOf(uint64(n)), count, n, 1000)
			list := impl.Balls(marks)
			last := marks[count-1].Id
			noBalls(t, list[:count-1])
			// The second of two is right when it is alone.
			if count > 2 {
				noBalls(t, list[1:])
			}
			noBalls(t, append(copyBalls(list), list[count-1]))
			noBalls(t, append(copyBalls(list), ball(last+1, 0, -1, -1, make([]int64, n)...)))
			noBalls(t, append(copyBalls(list), impl.Ball{}))
			noBalls(t, append([]impl.Ball{list[0]}, list...))
		}
	}
	// Balls by the same words, but of one mark more than there may be.
	for _, count := range []int{impl.MaxMarks + 1, impl.MaxMarks + 2, 200} {
		noBalls(t, ballsOf(marksOf(risingIds(1, count), 3, 4)))
		noBalls(t, ballsOf(someMarks(walkOf(6), count, 3, 1000)))
	}
	if !impl.BallsOk(ballsOf(marksOf(risingIds(1, impl.MaxMarks), 3, 4))) {
		t.Error("as many as there may be are refused")
	}
}

func TestBallsWrongPlace(t *testing.T) {
	for n := 1; n <= 4; n++ {
		for _, count := range []int{1, 2, 7, impl.MaxMarks} {
			list := impl.Balls(someMarks(walkOf(uint64(n)), count, n, 9))
			for _, q := range noPlaces(n) {
				noneClosest(t, list, q)
			}
		}
	}
}

// roomyBalls is the list with spare room behind it and behind each At, and a
// look at the whole of that memory.
func roomyBalls(balls []impl.Ball) ([]impl.Ball, func() []int64) {
	all := append(slices.Clone(balls), ball(91, 92, 93, 94, 95), ball(-96, -97, -98, -99))
	for i, b := range all {
		all[i].Mark.At, _ = roomy(b.Mark.At)
	}
	return all[:len(balls)], func() []int64 {
		var numbers []int64
		for _, b := range all {
			numbers = append(numbers, b.Radius, b.Near, b.Apart)
			numbers = append(numbers, memory([]impl.Mark{b.Mark})...)
		}
		return numbers
	}
}

// spoilBalls writes over an answer, each of its Ats, and the room behind all.
func spoilBalls(balls []impl.Ball) {
	balls = balls[:cap(balls)]
	for i, b := range balls {
		spoilNumbers(b.Mark.At)
		balls[i] = ball(-77, -77, -77, -77, -77)
	}
}

func TestBallsMarksStay(t *testing.T) {
	for _, marks := range slices.Concat(ballMarks(), noMarks()) {
		list, whole := roomyMarks(marks)
		kept := memory(whole)
		spoilBalls(impl.Balls(list))
		if !slices.Equal(memory(whole), kept) {
			t.Fatalf("%v became %v", marks, list)
		}
	}
}

func TestBallsStay(t *testing.T) {
	next := walkOf(70)
	lists := [][]impl.Ball{nil, make([]impl.Ball, 3), ballsOf(marksOf(risingIds(1, impl.MaxMarks+1), 3, 4))}
	for _, marks := range manyMarks() {
		lists = append(lists, impl.Balls(marks))
		if wrong := copyBalls(impl.Balls(marks)); len(wrong) > 1 {
			slices.Reverse(wrong)
			lists = append(lists, wrong)
		}
	}
	for _, balls := range lists {
		list, look := roomyBalls(balls)
		kept := look()
		for _, n := range []int{1, 2, 3, 4} {
			for _, p := range append(places(next, nil, n), nil, []int64{1, least}) {
				q, whole := roomy(p)
				keptQ := slices.Clone(whole)
				impl.BallsOk(list)
				impl.Closest(list, q)
				impl.Spared(list, q)
				if !slices.Equal(look(), kept) || !slices.Equal(whole, keptQ) {
					t.Fatalf("%v, %v became %v, %v", balls, keptQ, list, whole)
				}
			}
		}
	}
}

// Each At of an answer is its own, with the room behind it, also where the
// marks that came in share theirs.
func TestBallsAreNew(t *testing.T) {
	for _, count := range []int{1, 2, 3, 12, impl.MaxMarks} {
		for n := 1; n <= 4; n++ {
			list := someMarks(walkOf(71), count, n, 9)
			want := ballsOf(someMarks(walkOf(71), count, n, 9))
			ownBallAts(t, impl.Balls(list), want)
			first, second := impl.Balls(list), impl.Balls(list)
			spoilBalls(first)
			for i := range list {
				spoilNumbers(list[i].At)
				list[i].Id = -5
			}
			if !sameBalls(second, want) {
				t.Fatalf("%v became %v", want, second)
			}
			at := slices.Repeat([]int64{8}, n)
			shared := marksOf(risingIds(1, count))
			for i := range shared {
				shared[i].At = at
			}
			ownBallAts(t, impl.Balls(shared), ballsOf(marksOf(risingIds(1, count), at...)))
		}
	}
}

// ownBallAts writes over one At after the other; those behind it stay.
func ownBallAts(t *testing.T, balls, want []impl.Ball) {
	t.Helper()
	for i := range want {
		if !sameBalls(balls[i:], want[i:]) {
			t.Fatalf("behind %d: %v, not %v", i, balls[i:], want[i:])
		}
		spoilNumbers(balls[i].Mark.At)
	}
}

// What was asked ahead does not tell in what is asked next.
func TestClosestKeepsNothing(t *testing.T) {
	list := []impl.Mark{{Id: 1, At: []int64{0}}, {Id: 2, At: []int64{10}}, {Id: 3, At: []int64{20}}}
	for range 3 {
		byItsWords(t, list, []int64{20}, []int64{1000}, []int64{0}, []int64{-1000}, []int64{10}, []int64{4})
	}
}
