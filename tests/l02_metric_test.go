package tests

import (
	"slices"
	"testing"

	"loop.example/g00273/impl"
)

var kinds = []int64{impl.ByFar, impl.BySteps, impl.ByReach}

// noKinds are numbers that chapter 2 names no kind by.
var noKinds = []int64{0, 4, 5, -1, -2, -3, 1 << 32, 1<<32 + 1, 1<<32 + 2, 1<<32 + 3, least, least + 1, greatest, greatest - 1}

// walkOf gives numbers below most that go on as start says, the same ones
// each time.
func walkOf(start uint64) func(most int64) int64 {
	return func(most int64) int64 {
		start = start*6364136223846793005 + 1442695040888963407
		return int64(start>>33) % most
	}
}

// someMarks gives count right marks of n numbers from -wide to wide; what is
// narrow has many that are alike.
func someMarks(next func(int64) int64, count, n int, wide int64) []impl.Mark {
	list := []impl.Mark{}
	id := int64(0)
	for range count {
		id += 1 + next(9)
		at := make([]int64, n)
		for i := range at {
			at[i] = next(2*wide+1) - wide
		}
		list = append(list, impl.Mark{Id: id, At: at})
	}
	return list
}

// manyMarks has lists of right marks of 1 to 4 numbers, some of them none,
// one alone, or as many as there may be.
func manyMarks() [][]impl.Mark {
	next := walkOf(2)
	lists := [][]impl.Mark{}
	for n := 1; n <= 4; n++ {
		for _, count := range []int{0, 1, 2, 3, 4, 5, 7, 12, 31, 59, 60} {
			for _, wide := range []int64{0, 1, 3, 40, 1000} {
				lists = append(lists, someMarks(next, count, n, wide))
			}
		}
	}
	return lists
}

// apart measures by the document's words of chapter 1, number by number.
func apart(a, b []int64, kind int64) int64 {
	var far, steps, reach int64
	for i := range a {
		gap := a[i] - b[i]
		if gap < 0 {
			gap = -gap
		}
		far += gap * gap
		steps += gap
		reach = max(reach, gap)
	}
	return []int64{far, steps, reach}[kind-1]
}

func marksOf(ids []int64, at ...int64) []impl.Mark {
	list := []impl.Mark{}
	for _, id := range ids {
		list = append(list, impl.Mark{Id: id, At: slices.Clone(at)})
	}
	return list
}

func risingIds(first int64, count int) []int64 {
	ids := make([]int64, count)
	for i := range ids {
		ids[i] = first + int64(i)
	}
	return ids
}

// noMarks are lists of marks that chapter 2 refuses, whatever the kind.
func noMarks() [][]impl.Mark {
	lists := [][]impl.Mark{
		marksOf(risingIds(1, impl.MaxMarks+1), 0),
		marksOf(risingIds(1, impl.MaxMarks+1), 0, 1, 2, 3),
		marksOf(risingIds(1, 200), 5, 5),
		{{}},
		{{Id: 0, At: []int64{1}}},
		{{Id: 1}},
		{{Id: 1, At: []int64{}}},
		// Ids that are alike, fall, or fall only at the end.
		marksOf([]int64{1, 1}, 1, 2),
		marksOf([]int64{2, 1}, 1, 2),
		marksOf([]int64{1, 2, 2}, 1, 2),
		marksOf([]int64{1, 3, 2}, 1, 2),
		marksOf([]int64{5, 6, 7, 5}, 1, 2),
		marksOf([]int64{impl.MaxId, 1}, 1, 2),
		// They rise, but from or to what is no Id.
		marksOf([]int64{0, 1, 2}, 1, 2),
		marksOf([]int64{-1, 1, 2}, 1, 2),
		marksOf([]int64{1, 2, impl.MaxId + 1}, 1, 2),
		marksOf([]int64{least, 1, greatest}, 1, 2),
		// They are not all as long.
		{{Id: 1, At: []int64{1}}, {Id: 2, At: []int64{1, 2}}},
		{{Id: 1, At: []int64{1, 2}}, {Id: 2, At: []int64{1}}},
		{{Id: 1, At: []int64{1, 2}}, {Id: 2, At: []int64{3, 4}}, {Id: 3, At: []int64{5, 6, 7}}},
		{{Id: 1, At: []int64{1, 2, 3}}, {Id: 2, At: []int64{1, 2, 3, 4}}, {Id: 3, At: []int64{5, 6, 7}}},
	}
	for _, id := range []int64{0, -1, impl.MaxId + 1, -impl.MaxId, 1<<32 + 1, least, greatest} {
		lists = append(lists, marksOf([]int64{id}, 1, 2))
	}
	for _, p := range noPoints() {
		right := make([]int64, min(max(len(p), 1), 4))
		lists = append(lists,
			[]impl.Mark{{Id: 1, At: p}},
			[]impl.Mark{{Id: 1, At: p}, {Id: 2, At: p}},
			[]impl.Mark{{Id: 1, At: p}, {Id: 2, At: right}},
			[]impl.Mark{{Id: 1, At: right}, {Id: 2, At: p}},
			[]impl.Mark{{Id: 1, At: right}, {Id: 2, At: p}, {Id: 3, At: right}})
	}
	return lists
}

func TestKinds(t *testing.T) {
	if !slices.Equal(kinds, []int64{1, 2, 3}) || impl.MaxId != 1000000 || impl.MaxMarks != 60 {
		t.Error(kinds, impl.MaxId, impl.MaxMarks)
	}
}

func TestMarksOkRight(t *testing.T) {
	for _, list := range manyMarks() {
		if !impl.MarksOk(list) {
			t.Fatalf("MarksOk(%v) is false", list)
		}
	}
	for _, list := range [][]impl.Mark{
		nil, {},
		marksOf([]int64{1}, 0),
		marksOf([]int64{impl.MaxId}, 0),
		marksOf([]int64{1, impl.MaxId}, 1000, -1000, 1000, -1000),
		marksOf([]int64{impl.MaxId - 1, impl.MaxId}, 1, 2, 3),
		marksOf(risingIds(1, impl.MaxMarks), 7),
		marksOf(risingIds(impl.MaxId-impl.MaxMarks+1, impl.MaxMarks), 7, 8, 9, 10),
	} {
		if !impl.MarksOk(list) {
			t.Errorf("MarksOk(%v) is false", list)
		}
	}
}

func TestMarksOkWrong(t *testing.T) {
	for _, list := range noMarks() {
		if impl.MarksOk(list) {
			t.Errorf("MarksOk(%v) is true", list)
		}
	}
}

// One wrong mark in the place of each in turn is refused, also of the last.
func TestMarksOkEachPlace(t *testing.T) {
	for n := 1; n <= 4; n++ {
		list := someMarks(walkOf(uint64(n)), impl.MaxMarks, n, 1000)
		for i, m := range list {
			wrongs := []impl.Mark{
				{Id: m.Id, At: nil},
				{Id: m.Id, At: make([]int64, n+1)},
				{Id: m.Id, At: make([]int64, n-1)},
				{Id: m.Id, At: append(make([]int64, n-1), 1001)},
				{Id: m.Id, At: append(make([]int64, n-1), -1001)},
				{Id: 0, At: m.At},
				{Id: impl.MaxId + 1, At: m.At},
			}
			if i > 0 {
				wrongs = append(wrongs, impl.Mark{Id: list[i-1].Id, At: m.At})
			}
			if i < len(list)-1 {
				wrongs = append(wrongs, impl.Mark{Id: list[i+1].Id, At: m.At})
			}
			for _, wrong := range wrongs {
				other := slices.Clone(list)
				other[i] = wrong
				if impl.MarksOk(other) {
					t.Errorf("MarksOk is true with %v under %d", wrong, i)
				}
			}
		}
	}
}

func TestBetweenOrdinary(t *testing.T) {
	for _, c := range []struct {
		a, b              []int64
		far, steps, reach int64
	}{
		{[]int64{0}, []int64{0}, 0, 0, 0},
		{[]int64{3}, []int64{-4}, 49, 7, 7},
		{[]int64{0, 0}, []int64{3, 4}, 25, 7, 4},
		{[]int64{-5, 9}, []int64{7, -1}, 244, 22, 12},
		{[]int64{1, 2, 3}, []int64{3, 0, -3}, 44, 10, 6},
		{[]int64{1, -2, 3, -4}, []int64{-5, 6, 7, 8}, 260, 30, 12},
		{[]int64{1000, 1000, 1000, 1000}, []int64{-1000, -1000, -1000, -1000}, 16000000, 8000, 2000},
	} {
		for range 2 {
			for i, want := range []int64{c.far, c.steps, c.reach} {
				if g := impl.Between(c.a, c.b, kinds[i]); g != want {
					t.Errorf("Between(%v, %v, %d) = %d, not %d", c.a, c.b, kinds[i], g, want)
				}
			}
			c.a, c.b = c.b, c.a
		}
	}
}

func TestBetweenIsTheMeasure(t *testing.T) {
	for n := 1; n <= 4; n++ {
		points := somePoints(n)
		for _, a := range points {
			for _, b := range points {
				for _, kind := range kinds {
					if g := impl.Between(a, b, kind); g != apart(a, b, kind) {
						t.Fatalf("Between(%v, %v, %d) = %d, not %d", a, b, kind, g, apart(a, b, kind))
					}
				}
				if impl.Between(a, b, impl.ByFar) != impl.Far(a, b) || impl.Between(a, b, impl.BySteps) != impl.Steps(a, b) || impl.Between(a, b, impl.ByReach) != impl.Reach(a, b) {
					t.Fatalf("%v, %v: Between is not Far, Steps and Reach", a, b)
				}
			}
		}
	}
}

func TestBetweenWrong(t *testing.T) {
	rights := [][]int64{{1}, {2, -3}, {4, 5, -6}, {7, -8, 9, 10}}
	anyKinds := append(slices.Clone(kinds), noKinds...)
	minus := func(a, b []int64, kind int64) {
		t.Helper()
		if g, h := impl.Between(a, b, kind), impl.Between(b, a, kind); g != -1 || h != -1 {
			t.Errorf("Between(%v, %v, %d) = %d, the other way %d", a, b, kind, g, h)
		}
	}
	for i, a := range rights {
		for _, kind := range noKinds {
			minus(a, a, kind)
		}
		for j, b := range rights {
			for _, kind := range anyKinds {
				if i != j {
					minus(a, b, kind)
				}
			}
		}
	}
	for _, wrong := range noPoints() {
		for _, kind := range anyKinds {
			for _, right := range rights {
				minus(wrong, right, kind)
			}
			for _, other := range noPoints() {
				minus(wrong, other, kind)
			}
		}
	}
}

func TestDiameterAndMiddleOrdinary(t *testing.T) {
	for _, c := range []struct {
		list             []impl.Mark
		diameter, middle []int64 // by kind
	}{
		{[]impl.Mark{{Id: 7, At: []int64{-3}}, {Id: 8, At: []int64{1}}, {Id: 9, At: []int64{2}}}, []int64{25, 5, 5}, []int64{8, 8, 8}},
		{[]impl.Mark{{Id: 1, At: []int64{0, 0}}, {Id: 2, At: []int64{3, 4}}, {Id: 3, At: []int64{1, 0}}, {Id: 5, At: []int64{9, 9}}}, []int64{162, 18, 9}, []int64{2, 2, 2}},
		// Each kind has another one in the middle.
		{[]impl.Mark{{Id: 3, At: []int64{4, 4}}, {Id: 9, At: []int64{4, -4}}, {Id: 16, At: []int64{5, -3}}, {Id: 24, At: []int64{0, -2}}}, []int64{64, 10, 8}, []int64{16, 9, 24}},
		{[]impl.Mark{{Id: 3, At: []int64{0, 0, 0}}, {Id: 4, At: []int64{5, 0, 0}}, {Id: 6, At: []int64{3, 3, 3}}}, []int64{27, 9, 5}, []int64{4, 4, 6}},
		{[]impl.Mark{{Id: 1, At: []int64{1000, 1000, 1000, 1000}}, {Id: 1000000, At: []int64{-1000, -1000, -1000, -1000}}}, []int64{16000000, 8000, 2000}, []int64{1, 1, 1}},
	} {
		for i, kind := range kinds {
			if g := impl.Diameter(c.list, kind); g != c.diameter[i] {
				t.Errorf("Diameter(%v, %d) = %d, not %d", c.list, kind, g, c.diameter[i])
			}
			if g := impl.Middle(c.list, kind); g != c.middle[i] {
				t.Errorf("Middle(%v, %d) = %d, not %d", c.list, kind, g, c.middle[i])
			}
		}
	}
}

func TestNoneAndOneAlone(t *testing.T) {
	for _, kind := range kinds {
		for _, none := range [][]impl.Mark{nil, {}, make([]impl.Mark, 0, 5)} {
			if !impl.MarksOk(none) || impl.Diameter(none, kind) != -1 || impl.Middle(none, kind) != 0 {
				t.Errorf("none, kind %d: %t %d %d", kind, impl.MarksOk(none), impl.Diameter(none, kind), impl.Middle(none, kind))
			}
		}
		for n := 1; n <= 4; n++ {
			for _, id := range []int64{1, 2, 77, impl.MaxId} {
				for _, x := range []int64{-1000, 0, 1000} {
					alone := []impl.Mark{{Id: id, At: slices.Repeat([]int64{x}, n)}}
					if impl.Diameter(alone, kind) != 0 || impl.Middle(alone, kind) != id {
						t.Errorf("%v, kind %d: %d %d", alone, kind, impl.Diameter(alone, kind), impl.Middle(alone, kind))
					}
				}
			}
		}
	}
}

func TestMostMarks(t *testing.T) {
	for _, kind := range kinds {
		list := marksOf(risingIds(1, impl.MaxMarks), 0)
		for i := range list {
			list[i].At[0] = int64(i)
		}
		long := int64(59)
		if kind == impl.ByFar {
			long *= long
		}
		if impl.Diameter(list, kind) != long || impl.Middle(list, kind) != 30 {
			t.Errorf("kind %d: %d %d", kind, impl.Diameter(list, kind), impl.Middle(list, kind))
		}
		list = append(list, impl.Mark{Id: 61, At: []int64{60}})
		if impl.Diameter(list, kind) != -1 || impl.Middle(list, kind) != 0 {
			t.Errorf("one more, kind %d: %d %d", kind, impl.Diameter(list, kind), impl.Middle(list, kind))
		}
	}
}

func TestDiameterIsTheGreatest(t *testing.T) {
	for _, list := range manyMarks() {
		for _, kind := range kinds {
			want := int64(-1)
			for _, a := range list {
				for _, b := range list {
					want = max(want, apart(a.At, b.At, kind))
				}
			}
			if g := impl.Diameter(list, kind); g != want {
				t.Fatalf("Diameter(%v, %d) = %d, not %d", list, kind, g, want)
			}
		}
	}
}

// outermost is how far the farthest of the list is from this one.
func outermost(list []impl.Mark, from impl.Mark, kind int64) int64 {
	most := int64(0)
	for _, m := range list {
		most = max(most, impl.Between(from.At, m.At, kind))
	}
	return most
}

// Promise 2: the Middle is no farther from all than anybody, and of those who
// are as near it has the least Id.
func TestMiddleIsNoFartherThanAnybody(t *testing.T) {
	for _, list := range manyMarks() {
		if len(list) == 0 {
			continue
		}
		for _, kind := range kinds {
			id := impl.Middle(list, kind)
			at := slices.IndexFunc(list, func(m impl.Mark) bool { return m.Id == id })
			if at < 0 {
				t.Fatalf("Middle(%v, %d) = %d, which is none of them", list, kind, id)
			}
			most := outermost(list, list[at], kind)
			for i, m := range list {
				other := outermost(list, m, kind)
				if other < most || i < at && other == most {
					t.Fatalf("Middle(%v, %d) = %d, at most %d from all; %d is %d", list, kind, id, most, m.Id, other)
				}
			}
			if d := impl.Diameter(list, kind); most > d || kind != impl.ByFar && 2*most < d {
				t.Fatalf("Middle(%v, %d) = %d is %d from the farthest, the Diameter %d", list, kind, id, most, d)
			}
		}
	}
}

func TestMiddleOfAlikeOnes(t *testing.T) {
	for _, kind := range kinds {
		for _, c := range []struct {
			list []impl.Mark
			want int64
		}{
			{marksOf([]int64{4, 5, 900}, 3, 3), 4},
			{marksOf(risingIds(11, 60), -1000), 11},
			// Two at each end: all are as far from the other end.
			{[]impl.Mark{{Id: 2, At: []int64{9}}, {Id: 3, At: []int64{-9}}}, 2},
			{[]impl.Mark{{Id: 2, At: []int64{-9}}, {Id: 3, At: []int64{9}}}, 2},
			// The two between are alike, and not the first.
			{[]impl.Mark{{Id: 2, At: []int64{-9, 0}}, {Id: 3, At: []int64{1, 0}}, {Id: 8, At: []int64{-1, 0}}, {Id: 9, At: []int64{9, 0}}}, 3},
			{[]impl.Mark{{Id: 2, At: []int64{-9, 0}}, {Id: 3, At: []int64{9, 0}}, {Id: 8, At: []int64{0, 0}}, {Id: 9, At: []int64{0, 0}}}, 8},
			// The last alone is nearest to all.
			{[]impl.Mark{{Id: 1, At: []int64{10, 0, 0}}, {Id: 2, At: []int64{0, 10, 0}}, {Id: 3, At: []int64{0, 0, 10}}, {Id: 4, At: []int64{3, 3, 3}}}, 4},
		} {
			if g := impl.Middle(c.list, kind); g != c.want {
				t.Errorf("Middle(%v, %d) = %d, not %d", c.list, kind, g, c.want)
			}
		}
	}
}

func TestDiameterAndMiddleWrong(t *testing.T) {
	minus := func(list []impl.Mark, kind int64) {
		t.Helper()
		if g := impl.Diameter(list, kind); g != -1 {
			t.Errorf("Diameter(%v, %d) = %d", list, kind, g)
		}
		if g := impl.Middle(list, kind); g != 0 {
			t.Errorf("Middle(%v, %d) = %d", list, kind, g)
		}
	}
	for _, kind := range noKinds {
		minus(nil, kind)
		for _, list := range manyMarks() {
			minus(list, kind)
		}
		for _, list := range noMarks() {
			minus(list, kind)
		}
	}
	for _, kind := range kinds {
		for _, list := range noMarks() {
			minus(list, kind)
		}
	}
}

// roomyMarks is the list with spare room behind it and behind each At, and
// the whole of that memory.
func roomyMarks(marks []impl.Mark) (list, whole []impl.Mark) {
	all := append(slices.Clone(marks), impl.Mark{Id: 91, At: []int64{92}}, impl.Mark{Id: -93, At: []int64{94, 95}})
	for i, m := range all {
		all[i].At, _ = roomy(m.At)
	}
	return all[:len(marks)], all
}

// memory is all that the marks hold, with the spare room behind each At.
func memory(whole []impl.Mark) []int64 {
	var all []int64
	for _, m := range whole {
		all = append(all, m.Id, int64(len(m.At)), int64(cap(m.At)))
		all = append(all, m.At[:cap(m.At)]...)
	}
	return all
}

func TestMarksStay(t *testing.T) {
	lists := append(manyMarks(), noMarks()...)
	for _, marks := range lists {
		for _, kind := range []int64{impl.ByFar, impl.BySteps, impl.ByReach, 0, 4, least, greatest} {
			list, whole := roomyMarks(marks)
			kept := memory(whole)
			impl.MarksOk(list)
			impl.Diameter(list, kind)
			impl.Middle(list, kind)
			if !slices.Equal(memory(whole), kept) {
				t.Fatalf("kind %d: %v became %v", kind, marks, list)
			}
		}
	}
}

func TestBetweenArgumentsStay(t *testing.T) {
	lists := append(noPoints(), []int64{1}, []int64{-1000}, []int64{1, -2}, []int64{1000, 999}, []int64{3, 4, -5}, []int64{1, 2, 3, -4})
	for _, p := range lists {
		for _, q := range lists {
			for _, kind := range []int64{impl.ByFar, impl.BySteps, impl.ByReach, 0, 4, -1} {
				a, wholeA := roomy(p)
				b, wholeB := roomy(q)
				keptA, keptB := slices.Clone(wholeA), slices.Clone(wholeB)
				impl.Between(a, b, kind)
				impl.Between(a, a, kind)
				if !slices.Equal(wholeA, keptA) || !slices.Equal(wholeB, keptB) {
					t.Fatalf("%v, %v became %v, %v", keptA, keptB, wholeA, wholeB)
				}
			}
		}
	}
}
