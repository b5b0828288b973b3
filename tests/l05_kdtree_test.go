package tests

import (
	"cmp"
	"slices"
	"testing"

	"loop.example/g00273/impl"
)

func knot(id, axis, less, more int64, at ...int64) impl.Knot {
	return impl.Knot{Mark: impl.Mark{Id: id, At: at}, Axis: axis, Less: less, More: more}
}

func sameMark(a, b impl.Mark) bool { return a.Id == b.Id && slices.Equal(a.At, b.At) }

func sameKnots(a, b []impl.Knot) bool {
	return slices.EqualFunc(a, b, func(x, y impl.Knot) bool {
		return sameMark(x.Mark, y.Mark) && x.Axis == y.Axis && x.Less == y.Less && x.More == y.More
	})
}

// copyKnots is memory of its own, each At too.
func copyKnots(list []impl.Knot) []impl.Knot {
	own := slices.Clone(list)
	for i, k := range own {
		own[i].Mark.At = slices.Clone(k.Mark.At)
	}
	return own
}

// knotsOf are the knots of right marks by the document's words; each part is
// told where its first knot stands, and so where those of its halves do.
func knotsOf(list []impl.Mark) []impl.Knot {
	knots := make([]impl.Knot, len(list))
	var fill func(part []impl.Mark, axis int, at int64)
	fill = func(part []impl.Mark, axis int, at int64) {
		if len(part) == 0 {
			return
		}
		order := slices.Clone(part)
		slices.SortFunc(order, func(a, b impl.Mark) int {
			return cmp.Or(cmp.Compare(a.At[axis], b.At[axis]), cmp.Compare(a.Id, b.Id))
		})
		half := len(order) / 2
		k := impl.Knot{Mark: order[half], Axis: int64(axis), Less: -1, More: -1}
		if half > 0 {
			k.Less = at + 1
		}
		if half+1 < len(order) {
			k.More = at + 1 + int64(half)
		}
		knots[at] = k
		next := (axis + 1) % len(k.Mark.At)
		fill(order[:half], next, at+1)
		fill(order[half+1:], next, at+1+int64(half))
	}
	fill(list, 0, 0)
	return knots
}

func idsIn(list []impl.Knot) []int64 {
	ids := []int64{}
	for _, k := range list {
		ids = append(ids, k.Mark.Id)
	}
	return ids
}

// alikeMarks has marks that are alike in one number or in all, and marks
// whose numbers go with or against the order of their Ids.
func alikeMarks() [][]impl.Mark {
	lists := [][]impl.Mark{}
	for n := 1; n <= 4; n++ {
		for _, count := range []int{2, 3, 4, 7, 8, 15, 16, 33, impl.MaxMarks} {
			for alike := range n + 1 {
				for _, way := range []int64{1, -1} {
					list := marksOf(risingIds(3, count), make([]int64, n)...)
					for i, m := range list {
						for j := range m.At {
							if alike != j {
								m.At[j] = way * int64(i*(j+1)-40)
							}
						}
					}
					lists = append(lists, list)
				}
			}
			lists = append(lists, marksOf(risingIds(7, count), slices.Repeat([]int64{-1000}, n)...))
		}
	}
	return lists
}

// eachMarks are all lists of marks that the tests of this chapter go through.
func eachMarks() [][]impl.Mark { return append(manyMarks(), alikeMarks()...) }

func TestHalvedOrdinary(t *testing.T) {
	for _, c := range []struct {
		list []impl.Mark
		want []impl.Knot
		tall int64
	}{
		{[]impl.Mark{{Id: 9, At: []int64{-4}}}, []impl.Knot{knot(9, 0, -1, -1, -4)}, 1},
		{[]impl.Mark{{Id: 2, At: []int64{5}}, {Id: 4, At: []int64{-3}}}, []impl.Knot{knot(2, 0, 1, -1, 5), knot(4, 0, -1, -1, -3)}, 2},
		{[]impl.Mark{{Id: 2, At: []int64{-3}}, {Id: 4, At: []int64{5}}}, []impl.Knot{knot(4, 0, 1, -1, 5), knot(2, 0, -1, -1, -3)}, 2},
		{[]impl.Mark{{Id: 2, At: []int64{5}}, {Id: 4, At: []int64{-3}}, {Id: 6, At: []int64{1}}}, []impl.Knot{knot(6, 0, 1, 2, 1), knot(4, 0, -1, -1, -3), knot(2, 0, -1, -1, 5)}, 2},
		{[]impl.Mark{{Id: 1, At: []int64{0, 0}}, {Id: 2, At: []int64{3, 4}}, {Id: 3, At: []int64{1, 0}}, {Id: 5, At: []int64{9, 9}}},
			[]impl.Knot{knot(2, 0, 1, 3, 3, 4), knot(3, 1, 2, -1, 1, 0), knot(1, 0, -1, -1, 0, 0), knot(5, 1, -1, -1, 9, 9)}, 3},
		// By number 1 the halves have another order than by number 0.
		{[]impl.Mark{{Id: 1, At: []int64{1, 7}}, {Id: 2, At: []int64{2, 5}}, {Id: 3, At: []int64{3, 6}}, {Id: 4, At: []int64{4, 0}}, {Id: 5, At: []int64{5, 9}}, {Id: 6, At: []int64{6, 1}}, {Id: 7, At: []int64{7, 5}}},
			[]impl.Knot{knot(4, 0, 1, 4, 4, 0), knot(3, 1, 2, 3, 3, 6), knot(2, 0, -1, -1, 2, 5), knot(1, 0, -1, -1, 1, 7), knot(7, 1, 5, 6, 7, 5), knot(6, 0, -1, -1, 6, 1), knot(5, 0, -1, -1, 5, 9)}, 3},
		// Three numbers: behind number 2 comes number 0 again.
		{[]impl.Mark{{Id: 1, At: []int64{0, 0, 3}}, {Id: 2, At: []int64{1, 1, 2}}, {Id: 3, At: []int64{2, 2, 1}}, {Id: 4, At: []int64{3, 3, 0}}, {Id: 5, At: []int64{4, 0, 0}}, {Id: 6, At: []int64{5, 0, 0}}, {Id: 7, At: []int64{6, 0, 0}}, {Id: 8, At: []int64{7, 0, 0}}},
			[]impl.Knot{knot(5, 0, 1, 5, 4, 0, 0), knot(3, 1, 2, 4, 2, 2, 1), knot(1, 2, 3, -1, 0, 0, 3), knot(2, 0, -1, -1, 1, 1, 2), knot(4, 2, -1, -1, 3, 3, 0),
				knot(7, 1, 6, 7, 6, 0, 0), knot(6, 2, -1, -1, 5, 0, 0), knot(8, 2, -1, -1, 7, 0, 0)}, 4},
		{[]impl.Mark{{Id: 1, At: []int64{-1000, 0, 0, 0}}, {Id: 2, At: []int64{1000, 0, 0, 0}}, {Id: 1000000, At: []int64{0, 0, 0, -1000}}},
			[]impl.Knot{knot(1000000, 0, 1, 2, 0, 0, 0, -1000), knot(1, 1, -1, -1, -1000, 0, 0, 0), knot(2, 1, -1, -1, 1000, 0, 0, 0)}, 2},
		// Of alike numbers the lesser Id is ahead, so the middle is the one whose Id is.
		{marksOf([]int64{3, 5, 8}, 4), []impl.Knot{knot(5, 0, 1, 2, 4), knot(3, 0, -1, -1, 4), knot(8, 0, -1, -1, 4)}, 2},
		{marksOf([]int64{3, 5, 8, 9}, 4, 4), []impl.Knot{knot(8, 0, 1, 3, 4, 4), knot(5, 1, 2, -1, 4, 4), knot(3, 0, -1, -1, 4, 4), knot(9, 1, -1, -1, 4, 4)}, 3},
		{[]impl.Mark{{Id: 1, At: []int64{5, 1}}, {Id: 2, At: []int64{5, 0}}, {Id: 3, At: []int64{5, -1}}}, []impl.Knot{knot(2, 0, 1, 2, 5, 0), knot(1, 1, -1, -1, 5, 1), knot(3, 1, -1, -1, 5, -1)}, 2},
	} {
		g := impl.Halved(c.list)
		if !sameKnots(g, c.want) {
			t.Errorf("Halved(%v) = %v, not %v", c.list, g, c.want)
		}
		if !impl.KnotsOk(c.want) || impl.Tall(c.want) != c.tall {
			t.Errorf("%v: %t, tall %d, not %d", c.want, impl.KnotsOk(c.want), impl.Tall(c.want), c.tall)
		}
	}
}

func TestHalvedByItsWords(t *testing.T) {
	for _, list := range eachMarks() {
		g := impl.Halved(list)
		if want := knotsOf(list); !sameKnots(g, want) {
			t.Fatalf("Halved(%v) = %v, not %v", list, g, want)
		}
		if !impl.KnotsOk(g) {
			t.Fatalf("KnotsOk(%v) is false", g)
		}
	}
}

// below are the numbers of all knots from this one down.
func below(list []impl.Knot, at int64) []int64 {
	if at == -1 {
		return nil
	}
	return slices.Concat([]int64{at}, below(list, list[at].Less), below(list, list[at].More))
}

// A knot stands ahead of all below it, each once; Less is ahead of it by the
// order of its Axis, More behind, and they are as many or one less.
func TestHalvedParts(t *testing.T) {
	for _, list := range eachMarks() {
		knots := impl.Halved(list)
		if len(list) == 0 {
			continue
		}
		for i, at := range below(knots, 0) {
			if at != int64(i) {
				t.Fatalf("%v: knot %d stands under %d", knots, i, at)
			}
		}
		for _, k := range knots {
			less, more := below(knots, k.Less), below(knots, k.More)
			if len(less) != len(more) && len(less) != len(more)+1 {
				t.Fatalf("%v: %d and %d below %d", knots, len(less), len(more), k.Mark.Id)
			}
			side := func(at int64) int {
				m := knots[at].Mark
				return cmp.Or(cmp.Compare(m.At[k.Axis], k.Mark.At[k.Axis]), cmp.Compare(m.Id, k.Mark.Id))
			}
			for _, at := range less {
				if side(at) >= 0 || knots[at].Axis == k.Axis && at == k.Less && len(k.Mark.At) > 1 {
					t.Fatalf("%v: %d is no Less of %d", knots, at, k.Mark.Id)
				}
			}
			for _, at := range more {
				if side(at) <= 0 || knots[at].Axis == k.Axis && at == k.More && len(k.Mark.At) > 1 {
					t.Fatalf("%v: %d is no More of %d", knots, at, k.Mark.Id)
				}
			}
		}
	}
}

// Promise 5: what Found tells of the knots is what Nearest tells of the marks.
func TestFoundIsNearest(t *testing.T) {
	next := walkOf(5)
	for _, list := range eachMarks() {
		knots := impl.Halved(list)
		for _, q := range places(next, list, long(list)) {
			all := allHits(list, q)
			for _, k := range counts(len(list)) {
				g := impl.Found(knots, q, k)
				if !slices.Equal(g, impl.Nearest(list, q, k)) || !slices.Equal(g, upTo(all, int(k))) {
					t.Fatalf("Found(%v, %v, %d) = %v, not %v", knots, q, k, g, upTo(all, int(k)))
				}
			}
		}
	}
}

// Promise 5 with many points about few and many close marks, where most are
// alike far and the Id decides.
func TestFoundIsNearestClose(t *testing.T) {
	next := walkOf(55)
	for n := 1; n <= 4; n++ {
		for range 150 {
			list := someMarks(next, int(1+next(25)), n, 1+next(4))
			knots := impl.Halved(list)
			for range 12 {
				q := make([]int64, n)
				for i := range q {
					q[i] = next(13) - 6
				}
				all := allHits(list, q)
				for _, k := range counts(len(list)) {
					if g := impl.Found(knots, q, k); !slices.Equal(g, upTo(all, int(k))) {
						t.Fatalf("Found(%v, %v, %d) = %v, not %v", knots, q, k, g, upTo(all, int(k)))
					}
				}
			}
		}
	}
}

func TestFoundOrdinary(t *testing.T) {
	list := []impl.Mark{{Id: 1, At: []int64{0, 0}}, {Id: 2, At: []int64{3, 4}}, {Id: 3, At: []int64{1, 0}}, {Id: 5, At: []int64{9, 9}}, {Id: 8, At: []int64{0, 0}}}
	knots := impl.Halved(list)
	for _, c := range []struct {
		q    []int64
		k    int64
		want []impl.Hit
	}{
		{[]int64{0, 0}, 1, []impl.Hit{{Id: 1}}},
		{[]int64{0, 0}, 2, []impl.Hit{{Id: 1}, {Id: 8}}},
		{[]int64{0, 0}, 4, []impl.Hit{{Id: 1}, {Id: 8}, {Id: 3, Far: 1}, {Id: 2, Far: 25}}},
		{[]int64{8, 8}, 1, []impl.Hit{{Id: 5, Far: 2}}},
		{[]int64{9, 8}, 60, []impl.Hit{{Id: 5, Far: 1}, {Id: 2, Far: 52}, {Id: 3, Far: 128}, {Id: 1, Far: 145}, {Id: 8, Far: 145}}},
		{[]int64{9, 8}, 6, []impl.Hit{{Id: 5, Far: 1}, {Id: 2, Far: 52}, {Id: 3, Far: 128}, {Id: 1, Far: 145}, {Id: 8, Far: 145}}},
		{[]int64{-1000, 1000}, 1, []impl.Hit{{Id: 2, Far: 1998025}}},
	} {
		if g := impl.Found(knots, c.q, c.k); !slices.Equal(g, c.want) {
			t.Errorf("Found by %v, %d = %v, not %v", c.q, c.k, g, c.want)
		}
	}
}

// Promise 5: no tree of as many knots is less tall.
func TestTallIsTheLeast(t *testing.T) {
	for n := 1; n <= 4; n++ {
		levels, room := int64(0), 0
		for count := 0; count <= impl.MaxMarks; count++ {
			if count > room {
				levels, room = levels+1, 2*room+1
			}
			for _, wide := range []int64{0, 2, 1000} {
				knots := impl.Halved(someMarks(walkOf(uint64(count)), count, n, wide))
				if g := impl.Tall(knots); g != levels {
					t.Fatalf("of %d knots of %d numbers Tall is %d, not %d", count, n, g, levels)
				}
			}
		}
	}
	for _, list := range alikeMarks() {
		levels, room := int64(0), 0
		for len(list) > room {
			levels, room = levels+1, 2*room+1
		}
		if g := impl.Tall(impl.Halved(list)); g != levels {
			t.Fatalf("of %v Tall is %d, not %d", list, g, levels)
		}
	}
}

// lookedAt counts by the document's words over the marks themselves.
func lookedAt(list []impl.Mark, q []int64) int64 {
	count, nearest := int64(0), int64(-1)
	var look func(knots []impl.Knot, at int64)
	look = func(knots []impl.Knot, at int64) {
		if at == -1 {
			return
		}
		count++
		k := knots[at]
		if far := apart(k.Mark.At, q, impl.ByFar); nearest == -1 || far < nearest {
			nearest = far
		}
		between := q[k.Axis] - k.Mark.At[k.Axis]
		sides := []int64{k.Less, k.More}
		if between > 0 {
			slices.Reverse(sides)
		}
		look(knots, sides[0])
		if nearest == -1 || between*between <= nearest {
			look(knots, sides[1])
		}
	}
	if len(list) > 0 {
		look(knotsOf(list), 0)
	}
	return count
}

func TestLookedOrdinary(t *testing.T) {
	one := []impl.Mark{{Id: 1, At: []int64{0}}, {Id: 2, At: []int64{10}}, {Id: 3, At: []int64{20}}}
	two := []impl.Mark{{Id: 1, At: []int64{0, 0}}, {Id: 2, At: []int64{3, 4}}, {Id: 3, At: []int64{1, 0}}, {Id: 5, At: []int64{9, 9}}}
	five := []impl.Mark{{Id: 1, At: []int64{-20}}, {Id: 2, At: []int64{-10}}, {Id: 3, At: []int64{0}}, {Id: 4, At: []int64{10}}, {Id: 5, At: []int64{20}}}
	for _, c := range []struct {
		list []impl.Mark
		q    []int64
		want int64
	}{
		{one[:1], []int64{0}, 1}, {one[:1], []int64{1000}, 1}, {one[:1], []int64{-1000}, 1},
		// A mark: the middle one has both sides at 0, the others' other side is far.
		{one, []int64{10}, 3}, {one, []int64{0}, 2}, {one, []int64{20}, 2},
		// Between marks: in the very middle the other side may have one as near.
		{one, []int64{5}, 3}, {one, []int64{4}, 2}, {one, []int64{6}, 3}, {one, []int64{9}, 3},
		{one, []int64{15}, 3}, {one, []int64{16}, 2}, {one, []int64{14}, 3}, {one, []int64{11}, 3},
		// Outside on each side.
		{one, []int64{-1}, 2}, {one, []int64{-1000}, 2}, {one, []int64{21}, 2}, {one, []int64{1000}, 2},
		// Two: the root is the greater, its More is empty.
		{one[:2], []int64{10}, 2}, {one[:2], []int64{11}, 2}, {one[:2], []int64{1000}, 2}, {one[:2], []int64{0}, 2}, {one[:2], []int64{-9}, 2},
		{two, []int64{9, 9}, 2}, {two, []int64{0, 0}, 3}, {two, []int64{3, 4}, 3}, {two, []int64{3, -1000}, 4},
		// Outside: by both numbers a side is nearer than any mark, by one it is not.
		{two, []int64{-1000, -1000}, 4}, {two, []int64{1000, 1000}, 4}, {two, []int64{1000, 9}, 2}, {two, []int64{-1000, 0}, 3},
		{five, []int64{-20}, 3}, {five, []int64{-11}, 3}, {five, []int64{-5}, 5}, {five, []int64{20}, 3}, {five, []int64{13}, 3}, {five, []int64{1}, 4}, {five, []int64{0}, 4}, {five, []int64{1000}, 3},
	} {
		if g := impl.Looked(impl.Halved(c.list), c.q); g != c.want {
			t.Errorf("Looked(%v, %v) = %d, not %d", c.list, c.q, g, c.want)
		}
	}
}

func TestLookedByItsWords(t *testing.T) {
	next := walkOf(56)
	for _, list := range eachMarks() {
		knots := impl.Halved(list)
		points := places(next, list, long(list))
		for _, k := range knots {
			// On the Axis's own number, and beside it.
			p := slices.Clone(points[3])
			for _, beside := range []int64{0, -1, 1} {
				if x := k.Mark.At[k.Axis] + beside; x >= -1000 && x <= 1000 {
					points = append(points, with(p, int(k.Axis), x))
				}
			}
		}
		for _, q := range points {
			if g, want := impl.Looked(knots, q), lookedAt(list, q); g != want {
				t.Fatalf("Looked(%v, %v) = %d, not %d", knots, q, g, want)
			}
		}
	}
}

func TestLookedByItsWordsClose(t *testing.T) {
	next := walkOf(57)
	for n := 1; n <= 4; n++ {
		for range 200 {
			list := someMarks(next, int(1+next(impl.MaxMarks)), n, 1+next(30))
			knots := impl.Halved(list)
			for range 30 {
				q := make([]int64, n)
				for i := range q {
					q[i] = next(61) - 30
				}
				if g, want := impl.Looked(knots, q), lookedAt(list, q); g != want {
					t.Fatalf("Looked(%v, %v) = %d, not %d", knots, q, g, want)
				}
			}
		}
	}
}

// The other side is looked at where the square of what is between is the
// least Far, and not where it is above by the least there is, on each side.
func TestLookedAtTheEdge(t *testing.T) {
	for n := 1; n <= 4; n++ {
		for _, way := range []int64{1, -1} {
			for _, c := range []struct {
				across, along, want int64 // from q to the mark on its side
				longer              bool  // needs a second number
			}{
				{3, 0, 3, false}, {-1, 0, 2, false}, {2, 0, 2, false}, {0, 0, 2, false}, {0, 3, 3, true}, {0, -3, 3, true}, {2, 2, 2, true}, {2, -2, 2, true}, {1, 2, 2, true}, {4, 4, 3, true},
			} {
				if c.longer && n == 1 {
					continue
				}
				q, at, middle, other := make([]int64, n), make([]int64, n), make([]int64, n), make([]int64, n)
				q[0], at[0], other[0] = way*3, way*(3+c.across), -way*900
				at[n-1] += c.along
				list := []impl.Mark{{Id: 1, At: middle}, {Id: 2, At: at}, {Id: 3, At: other}}
				if g := impl.Looked(impl.Halved(list), q); g != c.want {
					t.Errorf("Looked(%v, %v) = %d, not %d", list, q, g, c.want)
				}
			}
		}
	}
}

// A q alike on the Axis goes to Less first: what is near there spares a part
// of More, and what is near in More comes too late for Less.
func TestLookedAlikeGoesToLess(t *testing.T) {
	near := [][]int64{{-1, 0}, {-2, -30}, {-3, 30}}
	far := [][]int64{{30, 10}, {5, 20}, {7, 40}}
	for _, c := range []struct {
		sign, want int64
	}{{1, 6}, {-1, 7}} {
		list := []impl.Mark{{Id: 1, At: []int64{0, 50}}}
		for _, at := range slices.Concat(near, far) {
			list = append(list, impl.Mark{Id: int64(len(list) + 1), At: []int64{c.sign * at[0], at[1]}})
		}
		if g := impl.Looked(impl.Halved(list), []int64{0, 0}); g != c.want {
			t.Errorf("Looked(%v, nought) = %d, not %d", list, g, c.want)
		}
	}
}

func TestHalvesOfNone(t *testing.T) {
	for _, none := range [][]impl.Mark{nil, {}, make([]impl.Mark, 0, 5)} {
		if g := impl.Halved(none); len(g) != 0 {
			t.Errorf("Halved of none = %v", g)
		}
	}
	for _, none := range [][]impl.Knot{nil, {}, make([]impl.Knot, 0, 5)} {
		if !impl.KnotsOk(none) || impl.Tall(none) != 0 {
			t.Errorf("of none %t, %d", impl.KnotsOk(none), impl.Tall(none))
		}
		for n := 1; n <= 4; n++ {
			for _, k := range []int64{1, 2, impl.MaxMarks, 0, impl.MaxMarks + 1} {
				if g := impl.Found(none, make([]int64, n), k); len(g) != 0 {
					t.Errorf("Found of none = %v", g)
				}
			}
			if g := impl.Looked(none, make([]int64, n)); g != 0 {
				t.Errorf("Looked of none = %d", g)
			}
		}
		for _, q := range noPoints() {
			if g := impl.Looked(none, q); g != -1 {
				t.Errorf("Looked of none by %v = %d", q, g)
			}
		}
	}
}

func TestHalvedWrong(t *testing.T) {
	for _, list := range noMarks() {
		if g := impl.Halved(list); len(g) != 0 {
			t.Errorf("Halved(%v) = %v", list, g)
		}
	}
}

// noWay asks for the fixed answers of knots that are not right.
func noWay(t *testing.T, list []impl.Knot) {
	t.Helper()
	if impl.KnotsOk(list) {
		t.Errorf("KnotsOk(%v) is true", list)
	}
	if g := impl.Tall(list); g != -1 {
		t.Errorf("Tall(%v) = %d", list, g)
	}
	points := [][]int64{{0}, {0, 0}, {0, 0, 0}, {0, 0, 0, 0}, nil}
	if len(list) > 0 {
		points = append(points, list[0].Mark.At)
	}
	for _, q := range points {
		if g := impl.Looked(list, q); g != -1 {
			t.Errorf("Looked(%v, %v) = %d", list, q, g)
		}
		for _, k := range []int64{1, 2, impl.MaxMarks} {
			if g := impl.Found(list, q, k); len(g) != 0 {
				t.Errorf("Found(%v, %v, %d) = %v", list, q, k, g)
			}
		}
	}
}

// changed has the knots again and again, each time with another one under i.
func changed(list []impl.Knot, i int, others ...impl.Knot) [][]impl.Knot {
	all := [][]impl.Knot{}
	for _, other := range others {
		knots := copyKnots(list)
		knots[i] = other
		all = append(all, knots)
	}
	return all
}

// knotsBeside are knots as this one is, but for a number of it or more that
// no right knot in its place can have.
func knotsBeside(list []impl.Knot, i int) []impl.Knot {
	k := list[i]
	end := int64(len(list))
	others := []impl.Knot{}
	for _, x := range []int64{k.Axis - 1, k.Axis + 1, k.Axis + int64(len(k.Mark.At)), -1, -2, 4, end, least, greatest, 1<<32 + k.Axis} {
		if x != k.Axis {
			others = append(others, knot(k.Mark.Id, x, k.Less, k.More, k.Mark.At...))
		}
	}
	for _, x := range []int64{-2, -1, 0, int64(i), int64(i) + 1, int64(i) + 2, end - 1, end, end + 1, least, greatest, 1<<32 + k.Less} {
		if x != k.Less {
			others = append(others, knot(k.Mark.Id, k.Axis, x, k.More, k.Mark.At...))
		}
		if x != k.More {
			others = append(others, knot(k.Mark.Id, k.Axis, k.Less, x, k.Mark.At...))
		}
	}
	if k.Less != k.More {
		others = append(others, knot(k.Mark.Id, k.Axis, k.More, k.Less, k.Mark.At...))
	}
	for _, id := range []int64{0, -1, -k.Mark.Id, impl.MaxId + 1, least, greatest, 1<<32 + k.Mark.Id} {
		others = append(others, knot(id, k.Axis, k.Less, k.More, k.Mark.At...))
	}
	for j := range k.Mark.At {
		for _, x := range []int64{-1001, 1001, least, greatest} {
			others = append(others, knot(k.Mark.Id, k.Axis, k.Less, k.More, with(k.Mark.At, j, x)...))
		}
	}
	for _, at := range [][]int64{nil, {}, make([]int64, 5), slices.Repeat([]int64{7}, 100)} {
		others = append(others, knot(k.Mark.Id, k.Axis, k.Less, k.More, at...))
	}
	return others
}

func TestKnotsOneIsWrong(t *testing.T) {
	for n := 1; n <= 4; n++ {
		for _, count := range []int{1, 2, 3, 4, 8, 13} {
			list := impl.Halved(someMarks(walkOf(uint64(n)), count, n, 6))
			for i, k := range list {
				others := knotsBeside(list, i)
				for j, other := range list {
					if j != i {
						// Its Id, or all of it, stands there twice.
						others = append(others, other, knot(other.Mark.Id, k.Axis, k.Less, k.More, k.Mark.At...))
					}
				}
				if count > 1 {
					others = append(others, knot(k.Mark.Id, k.Axis, k.Less, k.More, k.Mark.At[1:]...), knot(k.Mark.Id, k.Axis, k.Less, k.More, append(slices.Clone(k.Mark.At), 0)...))
				}
				for _, wrong := range changed(list, i, others...) {
					noWay(t, wrong)
				}
			}
			if !impl.KnotsOk(list) {
				t.Errorf("the right one is refused: %v", list)
			}
		}
	}
}

// A mark that is another place or has another Id is still right as long as
// Halved makes these knots of it, and else is not.
func TestKnotsOfOtherMarks(t *testing.T) {
	next := walkOf(58)
	rights, wrongs := 0, 0
	for n := 1; n <= 4; n++ {
		for _, wide := range []int64{1, 5, 1000} {
			for range 300 {
				knots := copyKnots(impl.Halved(someMarks(next, int(1+next(12)), n, wide)))
				for range 1 + next(2) {
					m := &knots[next(int64(len(knots)))].Mark
					if next(2) == 0 {
						m.Id = 1 + next(60)
					} else {
						m.At[next(int64(n))] = next(2*wide+1) - wide
					}
				}
				marks := []impl.Mark{}
				for _, k := range knots {
					marks = append(marks, k.Mark)
				}
				slices.SortFunc(marks, func(a, b impl.Mark) int { return cmp.Compare(a.Id, b.Id) })
				want := impl.MarksOk(marks) && sameKnots(knotsOf(marks), knots)
				if impl.KnotsOk(knots) != want {
					t.Fatalf("KnotsOk(%v) is %t", knots, !want)
				}
				if want {
					rights++
				} else {
					wrongs++
					noWay(t, knots)
				}
			}
		}
	}
	if rights < 100 || wrongs < 100 {
		t.Errorf("%d right ones and %d wrong ones", rights, wrongs)
	}
}

// Alike numbers tell by Id alone which knot is which.
func TestKnotsOfAlikeMarks(t *testing.T) {
	for _, count := range []int{2, 3, 6, 9} {
		list := impl.Halved(marksOf(risingIds(5, count), 1, 1))
		for i := range list {
			for j := range i {
				wrong := copyKnots(list)
				wrong[i].Mark.Id, wrong[j].Mark.Id = wrong[j].Mark.Id, wrong[i].Mark.Id
				noWay(t, wrong)
			}
		}
	}
}

func TestKnotsInAnotherOrder(t *testing.T) {
	for n := 1; n <= 4; n++ {
		for _, count := range []int{2, 3, 4, 7, 12} {
			list := impl.Halved(someMarks(walkOf(uint64(59+n)), count, n, 1000))
			for i := range list {
				for j := range i {
					wrong := copyKnots(list)
					wrong[i], wrong[j] = wrong[j], wrong[i]
					noWay(t, wrong)
				}
			}
			wrong := copyKnots(list)
			slices.Reverse(wrong)
			noWay(t, wrong)
		}
	}
}

// More ahead of Less, with their numbers set right again.
func TestKnotsMoreAheadOfLess(t *testing.T) {
	noWay(t, []impl.Knot{knot(2, 0, 2, 1, 0), knot(3, 0, -1, -1, 5), knot(1, 0, -1, -1, -5)})
	// A right tree of another middle, and one that is but a chain.
	noWay(t, []impl.Knot{knot(1, 0, -1, 1, -5), knot(2, 0, -1, -1, 5)})
	noWay(t, []impl.Knot{knot(1, 0, -1, 1, -5), knot(2, 0, -1, 2, 0), knot(3, 0, -1, -1, 5)})
	noWay(t, []impl.Knot{knot(3, 0, 1, -1, 5), knot(2, 0, 2, -1, 0), knot(1, 0, -1, -1, -5)})
	// Axis 0 throughout.
	noWay(t, []impl.Knot{knot(2, 0, 1, 2, 0, 0), knot(1, 0, -1, -1, -5, 0), knot(3, 0, -1, -1, 5, 0)})
	// Ways that come back.
	noWay(t, []impl.Knot{knot(2, 0, 0, 0, 0)})
	noWay(t, []impl.Knot{knot(2, 0, 1, -1, 0), knot(1, 0, 0, 0, -5)})
	noWay(t, []impl.Knot{{}})
	noWay(t, make([]impl.Knot, 3))
}

func TestKnotsTooManyOrTooFew(t *testing.T) {
	for n := 1; n <= 4; n++ {
		for _, count := range []int{2, 3, 4, 7, 12, impl.MaxMarks} {
			marks := someMarks(walkOf(uint64(n)), count, n, 1000)
			list := impl.Halved(marks)
			last := marks[count-1].Id
			noWay(t, list[:count-1])
			// The lower of two knots of one number is right when it is alone.
			if n > 1 || count > 2 {
				noWay(t, list[1:])
			}
			noWay(t, append(copyKnots(list), list[count-1]))
			noWay(t, append(copyKnots(list), knot(last+1, 0, -1, -1, make([]int64, n)...)))
			noWay(t, append(copyKnots(list), impl.Knot{}))
			noWay(t, append([]impl.Knot{list[0]}, list...))
		}
	}
	// A tree by the same words, but of one mark more than there may be.
	for _, count := range []int{impl.MaxMarks + 1, impl.MaxMarks + 2, 200} {
		noWay(t, knotsOf(marksOf(risingIds(1, count), 3, 4)))
		noWay(t, knotsOf(someMarks(walkOf(6), count, 3, 1000)))
	}
	if !impl.KnotsOk(knotsOf(marksOf(risingIds(1, impl.MaxMarks), 3, 4))) {
		t.Error("as many as there may be are refused")
	}
}

// noPlaces are lists that are no points, or not of n numbers.
func noPlaces(n int) [][]int64 {
	all := noPoints()
	for other := range 7 {
		if other != n {
			all = append(all, make([]int64, other))
		}
	}
	for i := range n {
		for _, x := range []int64{-1001, 1001, 1 << 32, least, greatest} {
			all = append(all, with(make([]int64, n), i, x))
		}
	}
	return all
}

func TestKnotsWrongPlace(t *testing.T) {
	for n := 1; n <= 4; n++ {
		for _, count := range []int{1, 2, 7, impl.MaxMarks} {
			list := impl.Halved(someMarks(walkOf(uint64(n)), count, n, 9))
			for _, q := range noPlaces(n) {
				if g := impl.Looked(list, q); g != -1 {
					t.Errorf("Looked(%v, %v) = %d", list, q, g)
				}
				for _, k := range []int64{1, impl.MaxMarks} {
					if g := impl.Found(list, q, k); len(g) != 0 {
						t.Errorf("Found(%v, %v, %d) = %v", list, q, k, g)
					}
				}
			}
		}
	}
}

func TestFoundEachCount(t *testing.T) {
	for _, count := range []int{0, 1, 2, 30, impl.MaxMarks} {
		list := someMarks(walkOf(60), count, 2, 5)
		knots, q := impl.Halved(list), []int64{1, -2}
		all := allHits(list, q)
		for k := int64(-3); k <= impl.MaxMarks+3; k++ {
			want := []impl.Hit{}
			if k >= 1 && k <= impl.MaxMarks {
				want = upTo(all, int(k))
			}
			if g := impl.Found(knots, q, k); !slices.Equal(g, want) {
				t.Errorf("of %d Found by %d = %v, not %v", count, k, g, want)
			}
		}
		for _, k := range noCounts {
			if g := impl.Found(knots, q, k); len(g) != 0 {
				t.Errorf("of %d Found by %d = %v", count, k, g)
			}
		}
	}
}

// roomyKnots is the list with spare room behind it and behind each At, and a
// look at the whole of that memory.
func roomyKnots(knots []impl.Knot) ([]impl.Knot, func() []int64) {
	all := append(slices.Clone(knots), knot(91, 92, 93, 94, 95), knot(-96, -97, -98, -99))
	for i, k := range all {
		all[i].Mark.At, _ = roomy(k.Mark.At)
	}
	return all[:len(knots)], func() []int64 {
		var numbers []int64
		for _, k := range all {
			numbers = append(numbers, k.Axis, k.Less, k.More)
			numbers = append(numbers, memory([]impl.Mark{k.Mark})...)
		}
		return numbers
	}
}

// spoilKnots writes over an answer, each of its Ats, and the room behind all.
func spoilKnots(knots []impl.Knot) {
	knots = knots[:cap(knots)]
	for i, k := range knots {
		spoilNumbers(k.Mark.At)
		knots[i] = knot(-77, -77, -77, -77, -77)
	}
}

func TestHalvedMarksStay(t *testing.T) {
	for _, marks := range slices.Concat(eachMarks(), noMarks()) {
		list, whole := roomyMarks(marks)
		kept := memory(whole)
		spoilKnots(impl.Halved(list))
		if !slices.Equal(memory(whole), kept) {
			t.Fatalf("%v became %v", marks, list)
		}
	}
}

func TestKnotsStay(t *testing.T) {
	next := walkOf(61)
	lists := [][]impl.Knot{nil, make([]impl.Knot, 3), knotsOf(marksOf(risingIds(1, impl.MaxMarks+1), 3, 4))}
	for _, marks := range manyMarks() {
		lists = append(lists, impl.Halved(marks))
		if wrong := copyKnots(impl.Halved(marks)); len(wrong) > 1 {
			slices.Reverse(wrong)
			lists = append(lists, wrong)
		}
	}
	for _, knots := range lists {
		list, look := roomyKnots(knots)
		kept := look()
		for _, n := range []int{1, 2, 3, 4} {
			for _, p := range append(places(next, nil, n), nil, []int64{1, least}) {
				q, whole := roomy(p)
				keptQ := slices.Clone(whole)
				impl.KnotsOk(list)
				impl.Tall(list)
				impl.Looked(list, q)
				for _, k := range []int64{1, impl.MaxMarks, 0, least} {
					spoil(impl.Found(list, q, k))
				}
				if !slices.Equal(look(), kept) || !slices.Equal(whole, keptQ) {
					t.Fatalf("%v, %v became %v, %v", knots, keptQ, list, whole)
				}
			}
		}
	}
}

// Each At of an answer is its own, with the room behind it, also where the
// marks that came in share theirs.
func TestHalvedIsNew(t *testing.T) {
	for _, count := range []int{1, 2, 3, 12, impl.MaxMarks} {
		for n := 1; n <= 4; n++ {
			list := someMarks(walkOf(62), count, n, 9)
			want := knotsOf(someMarks(walkOf(62), count, n, 9))
			ownAts(t, impl.Halved(list), want)
			first, second := impl.Halved(list), impl.Halved(list)
			spoilKnots(first)
			for i := range list {
				spoilNumbers(list[i].At)
				list[i].Id = -5
			}
			if !sameKnots(second, want) {
				t.Fatalf("%v became %v", want, second)
			}
			at := slices.Repeat([]int64{8}, n)
			shared := marksOf(risingIds(1, count))
			for i := range shared {
				shared[i].At = at
			}
			ownAts(t, impl.Halved(shared), knotsOf(marksOf(risingIds(1, count), at...)))
		}
	}
}

// ownAts writes over one At after the other; those behind it stay.
func ownAts(t *testing.T, knots, want []impl.Knot) {
	t.Helper()
	for i := range want {
		if !sameKnots(knots[i:], want[i:]) {
			t.Fatalf("behind %d: %v, not %v", i, knots[i:], want[i:])
		}
		at := knots[i].Mark.At
		spoilNumbers(at)
	}
}

func TestFoundIsNew(t *testing.T) {
	list := someMarks(walkOf(63), 12, 2, 5)
	knots, q := impl.Halved(list), []int64{1, 2}
	want := allHits(list, q)
	found := impl.Found(knots, q, 12)
	spoil(impl.Found(knots, q, 12))
	spoilKnots(knots)
	q[0] = 999
	if !slices.Equal(found, want) {
		t.Errorf("%v, not %v", found, want)
	}
}

func TestKnotIdsAreTheMarks(t *testing.T) {
	for _, list := range eachMarks() {
		ids := idsIn(impl.Halved(list))
		slices.Sort(ids)
		if !slices.EqualFunc(ids, list, func(id int64, m impl.Mark) bool { return m.Id == id }) {
			t.Fatalf("of %v the knots have %v", list, ids)
		}
	}
}
