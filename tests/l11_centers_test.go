package tests

import (
	"slices"
	"testing"

	"loop.example/g00273/impl"
)

// mostTried is of how many marks chapter 11 tells the best radius.
const mostTried = 8

func idsOfMarks(list []impl.Mark) []int64 {
	ids := []int64{}
	for _, m := range list {
		ids = append(ids, m.Id)
	}
	return ids
}

// withIds are the marks with these Ids, in the order of the Ids.
func withIds(list []impl.Mark, ids []int64) []impl.Mark {
	marks := []impl.Mark{}
	for _, id := range ids {
		at := slices.IndexFunc(list, func(m impl.Mark) bool { return m.Id == id })
		marks = append(marks, list[at])
	}
	return marks
}

// leastTo is the least of what is between a mark and these.
func leastTo(m impl.Mark, centers []impl.Mark, kind int64) int64 {
	nearest := int64(greatest)
	for _, c := range centers {
		nearest = min(nearest, apart(m.At, c.At, kind))
	}
	return nearest
}

// chosenIn is Chosen by the document's words, of as many as there are: those
// of a k are the first k. A mark that is chosen is not chosen again.
func chosenIn(list []impl.Mark, kind int64) []int64 {
	chosen, left := []impl.Mark{list[0]}, slices.Clone(list[1:])
	for len(left) > 0 {
		gaps := []int64{}
		for _, m := range left {
			gaps = append(gaps, leastTo(m, chosen, kind))
		}
		at := slices.Index(gaps, slices.Max(gaps))
		chosen = append(chosen, left[at])
		left = slices.Delete(left, at, at+1)
	}
	return idsOfMarks(chosen)
}

// radiusIn is Radius by the document's words.
func radiusIn(list []impl.Mark, ids []int64, kind int64) int64 {
	radius, centers := int64(0), withIds(list, ids)
	for _, m := range list {
		radius = max(radius, leastTo(m, centers, kind))
	}
	return radius
}

// choicesOf are all lists of k of these Ids, each in their order.
func choicesOf(ids []int64, k int) [][]int64 {
	if k == 0 {
		return [][]int64{{}}
	}
	all := [][]int64{}
	for i, id := range ids {
		for _, rest := range choicesOf(ids[i+1:], k-1) {
			all = append(all, append([]int64{id}, rest...))
		}
	}
	return all
}

// bestIn is BestRadius by the document's words.
func bestIn(list []impl.Mark, k int, kind int64) int64 {
	best := int64(greatest)
	for _, ids := range choicesOf(idsOfMarks(list), k) {
		best = min(best, radiusIn(list, ids, kind))
	}
	return best
}

// fewMarks has lists of 1 to 8 right marks: some anywhere, some close
// together, some at one place, some in two or three heaps, some on a line.
func fewMarks() [][]impl.Mark {
	next, lists := walkOf(11), [][]impl.Mark{}
	for n := 1; n <= 4; n++ {
		for count := 1; count <= mostTried; count++ {
			for _, wide := range []int64{0, 1, 2, 5, 30, 1000} {
				lists = append(lists, someMarks(next, count, n, wide))
			}
			for heaps := int64(2); heaps <= 3; heaps++ {
				list := someMarks(next, count, n, 4)
				for _, m := range list {
					m.At[0] += 90 * next(heaps)
				}
				lists = append(lists, list)
			}
			numbers := []int64{}
			for i := range count {
				numbers = append(numbers, int64(i*i)-9)
			}
			lists = append(lists, axisMarks(n, n-1, numbers...))
		}
	}
	return lists
}

// centerMarks are all lists of one mark or more that the tests of this
// chapter go through.
func centerMarks() [][]impl.Mark {
	all := slices.Concat(fewMarks(), ballMarks())
	return slices.DeleteFunc(all, func(list []impl.Mark) bool { return len(list) == 0 })
}

// someIds has count Ids of the list in any order, some of them more than once.
func someIds(next func(int64) int64, list []impl.Mark, count int) []int64 {
	ids := []int64{}
	for range count {
		ids = append(ids, list[next(int64(len(list)))].Id)
	}
	return ids
}

// someCounts has each k up to 9, and of many marks some above, and all.
func someCounts(many int) []int {
	ks := []int{}
	for k := 1; k < many; k++ {
		if k <= 9 || k%13 == 0 || k == many-1 {
			ks = append(ks, k)
		}
	}
	return append(ks, many)
}

// wrongCounts are numbers that are no k of so many marks.
func wrongCounts(many int) []int64 {
	return []int64{0, -1, -2, least, least + 1, int64(many) + 1, int64(many) + 2, impl.MaxMarks + 1, 1<<32 + 1, -1 << 32, greatest - 1, greatest}
}

// chooses asks for what Chosen answers, and for its Radius.
func chooses(t *testing.T, list []impl.Mark, kind int64, chosen []int64) {
	t.Helper()
	for _, k := range someCounts(len(list)) {
		if g := impl.Chosen(list, int64(k), kind); !slices.Equal(g, chosen[:k]) {
			t.Fatalf("Chosen(%v, %d, %d) = %v, not %v", list, k, kind, g, chosen[:k])
		}
		if g, want := impl.Radius(list, chosen[:k], kind), radiusIn(list, chosen[:k], kind); g != want {
			t.Fatalf("Radius(%v, %v, %d) = %d, not %d", list, chosen[:k], kind, g, want)
		}
	}
}

// noChoice asks Chosen and BestRadius for their fixed answers.
func noChoice(t *testing.T, list []impl.Mark, k, kind int64) {
	t.Helper()
	if g := impl.Chosen(list, k, kind); len(g) != 0 {
		t.Errorf("Chosen(%v, %d, %d) = %v", list, k, kind, g)
	}
	if g := impl.BestRadius(list, k, kind); g != -1 {
		t.Errorf("BestRadius(%v, %d, %d) = %d", list, k, kind, g)
	}
}

func noRadius(t *testing.T, list []impl.Mark, ids []int64, kind int64) {
	t.Helper()
	if g := impl.Radius(list, ids, kind); g != -1 {
		t.Errorf("Radius(%v, %v, %d) = %d", list, ids, kind, g)
	}
}

// radii asks for Chosen of all, and for the Radius of the first k and the
// best one, for each k from 1 on.
func radii(t *testing.T, list []impl.Mark, kind int64, chosen, radius, best []int64) {
	t.Helper()
	for i := range list {
		k := int64(i + 1)
		if g := impl.Chosen(list, k, kind); !slices.Equal(g, chosen[:k]) {
			t.Errorf("Chosen(%v, %d, %d) = %v, not %v", list, k, kind, g, chosen[:k])
		}
		if g := impl.Radius(list, chosen[:k], kind); g != radius[i] {
			t.Errorf("Radius(%v, %v, %d) = %d, not %d", list, chosen[:k], kind, g, radius[i])
		}
		if g := impl.BestRadius(list, k, kind); g != best[i] {
			t.Errorf("BestRadius(%v, %d, %d) = %d, not %d", list, k, kind, g, best[i])
		}
	}
}

func TestCentersOrdinary(t *testing.T) {
	one := []impl.Mark{{Id: 7, At: []int64{-3, 4}}}
	two := []impl.Mark{{Id: 2, At: []int64{5}}, {Id: 9, At: []int64{-2}}}
	four := []impl.Mark{{Id: 1, At: []int64{0, 0}}, {Id: 2, At: []int64{3, 4}}, {Id: 3, At: []int64{1, 0}}, {Id: 5, At: []int64{9, 9}}}
	// Each kind has another one as the second.
	three := []impl.Mark{{Id: 4, At: []int64{0, 0, 0}}, {Id: 6, At: []int64{9, 0, 0}}, {Id: 8, At: []int64{5, 5, 5}}, {Id: 10, At: []int64{8, 6, 0}}}
	line := axisMarks(4, 2, 0, 1, 2, 10, 11, 30)
	for _, c := range []struct {
		list                 []impl.Mark
		kind                 int64
		chosen, radius, best []int64
	}{
		{one, impl.ByFar, []int64{7}, []int64{0}, []int64{0}},
		{one, impl.BySteps, []int64{7}, []int64{0}, []int64{0}},
		{one, impl.ByReach, []int64{7}, []int64{0}, []int64{0}},
		{two, impl.ByFar, []int64{2, 9}, []int64{49, 0}, []int64{49, 0}},
		{two, impl.BySteps, []int64{2, 9}, []int64{7, 0}, []int64{7, 0}},
		{two, impl.ByReach, []int64{2, 9}, []int64{7, 0}, []int64{7, 0}},
		{four, impl.ByFar, []int64{1, 5, 2, 3}, []int64{162, 25, 1, 0}, []int64{61, 20, 1, 0}},
		{four, impl.BySteps, []int64{1, 5, 2, 3}, []int64{18, 7, 1, 0}, []int64{11, 6, 1, 0}},
		{four, impl.ByReach, []int64{1, 5, 2, 3}, []int64{9, 4, 1, 0}, []int64{6, 4, 1, 0}},
		{three, impl.ByFar, []int64{4, 10, 6, 8}, []int64{100, 37, 35, 0}, []int64{75, 37, 35, 0}},
		{three, impl.BySteps, []int64{4, 8, 6, 10}, []int64{15, 9, 7, 0}, []int64{14, 9, 7, 0}},
		{three, impl.ByReach, []int64{4, 6, 10, 8}, []int64{9, 6, 5, 0}, []int64{5, 5, 5, 0}},
		{line, impl.BySteps, []int64{1, 6, 5, 3, 2, 4}, []int64{30, 11, 2, 1, 1, 0}, []int64{19, 9, 1, 1, 1, 0}},
	} {
		radii(t, c.list, c.kind, c.chosen, c.radius, c.best)
	}
}

func TestCentersByTheirWords(t *testing.T) {
	full := 0
	for _, list := range centerMarks() {
		for _, kind := range kinds {
			chooses(t, list, kind, chosenIn(list, kind))
		}
		if len(list) == impl.MaxMarks {
			full++
		}
	}
	if full < 50 {
		t.Errorf("only %d are full", full)
	}
}

func TestBestRadiusByItsWords(t *testing.T) {
	for _, list := range fewMarks() {
		for _, kind := range kinds {
			for k := 1; k <= len(list); k++ {
				if g, want := impl.BestRadius(list, int64(k), kind), bestIn(list, k, kind); g != want {
					t.Fatalf("BestRadius(%v, %d, %d) = %d, not %d", list, k, kind, g, want)
				}
			}
		}
	}
}

// Promise 11: Radius of Chosen is at most twice the best by Steps and Reach.
// (By Far, whose roots keep the third side, it is at most four times as much.)
func TestGonzalez(t *testing.T) {
	var asked, worse, twice int
	for _, list := range fewMarks() {
		for _, kind := range kinds {
			times := int64(2)
			if kind == impl.ByFar {
				times = 4
			}
			for k := int64(1); k <= int64(len(list)); k++ {
				chosen := impl.Chosen(list, k, kind)
				radius, best := impl.Radius(list, chosen, kind), impl.BestRadius(list, k, kind)
				if int64(len(chosen)) != k || radius < best || best < 0 || radius > times*best {
					t.Fatalf("%v, %d, %d: %v reach %d, the best %d", list, k, kind, chosen, radius, best)
				}
				if kind == impl.ByFar {
					continue
				}
				asked++
				if radius > best {
					worse++
				}
				if best > 0 && radius == 2*best {
					twice++
				}
			}
		}
	}
	if asked < 1000 || worse < 200 || twice < 10 {
		t.Errorf("%d asked, %d worse than the best, %d twice as far", asked, worse, twice)
	}
}

// Promise 11: no k of the marks have a Radius below BestRadius, and some have
// just that.
func TestBestRadiusIsTheLeast(t *testing.T) {
	for _, list := range fewMarks() {
		for _, kind := range kinds {
			for k := 1; k <= len(list); k++ {
				best, met := impl.BestRadius(list, int64(k), kind), false
				for _, ids := range choicesOf(idsOfMarks(list), k) {
					radius := impl.Radius(list, ids, kind)
					if radius < best {
						t.Fatalf("BestRadius(%v, %d, %d) = %d, but %v reach %d", list, k, kind, best, ids, radius)
					}
					met = met || radius == best
				}
				if !met {
					t.Fatalf("BestRadius(%v, %d, %d) = %d, which none reach", list, k, kind, best)
				}
			}
		}
	}
}

// Promise 11 of marks too many to try all choices: any two of those chosen and
// the one left out farthest are apart by Radius at least, so that two of them
// share a center of any others, and one is no nearer to it than the half.
func TestGonzalezOfMany(t *testing.T) {
	next := walkOf(111)
	for _, list := range centerMarks() {
		for _, kind := range []int64{impl.BySteps, impl.ByReach} {
			for _, k := range someCounts(len(list)) {
				chosen := impl.Chosen(list, int64(k), kind)
				radius := impl.Radius(list, chosen, kind)
				for i, a := range withIds(list, chosen) {
					for _, b := range withIds(list, chosen[:i]) {
						if apart(a.At, b.At, kind) < radius {
							t.Fatalf("Chosen(%v, %d, %d) = %v: %d and %d are nearer than %d", list, k, kind, chosen, a.Id, b.Id, radius)
						}
					}
				}
				if other := impl.Radius(list, someIds(next, list, k), kind); radius > 2*other {
					t.Fatalf("Chosen(%v, %d, %d) = %v reach %d, others %d", list, k, kind, chosen, radius, other)
				}
			}
		}
	}
}

// By Far it may be more than twice as much, of which the promise says nothing.
func TestFarMayBeMoreThanTwice(t *testing.T) {
	list := axisMarks(1, 0, 0, 5, 10)
	for i, want := range [][2]int64{{100, 25}, {10, 5}, {10, 5}} {
		radius, best := impl.Radius(list, impl.Chosen(list, 1, kinds[i]), kinds[i]), impl.BestRadius(list, 1, kinds[i])
		if radius != want[0] || best != want[1] {
			t.Errorf("kind %d: %d, the best %d", kinds[i], radius, best)
		}
	}
}

// More chosen reach no farther, also of the best, and all reach all.
func TestMoreCentersReachNoFarther(t *testing.T) {
	for _, list := range centerMarks() {
		for _, kind := range kinds {
			last, lastBest := impl.Diameter(list, kind), impl.Diameter(list, kind)
			for _, k := range someCounts(len(list)) {
				radius, best := impl.Radius(list, impl.Chosen(list, int64(k), kind), kind), impl.BestRadius(list, int64(k), kind)
				if radius < 0 || radius > last || best > lastBest {
					t.Fatalf("%v, %d, %d: %d behind %d, the best %d behind %d", list, k, kind, radius, last, best, lastBest)
				}
				last, lastBest = radius, best
			}
			if last != 0 || lastBest > 0 {
				t.Fatalf("%v, kind %d: all reach %d, the best %d", list, kind, last, lastBest)
			}
		}
	}
}

// The first chosen is the first mark, wherever it lies and whatever its Id;
// of one center the best is the Middle.
func TestFirstChosen(t *testing.T) {
	for _, list := range centerMarks() {
		for _, kind := range kinds {
			if g := impl.Chosen(list, 1, kind); !slices.Equal(g, []int64{list[0].Id}) {
				t.Fatalf("Chosen(%v, 1, %d) = %v", list, kind, g)
			}
			if len(list) > mostTried {
				continue
			}
			middle := []int64{impl.Middle(list, kind)}
			if g := impl.BestRadius(list, 1, kind); g != impl.Radius(list, middle, kind) {
				t.Fatalf("BestRadius(%v, 1, %d) = %d, not that of %v", list, kind, g, middle)
			}
		}
	}
}

// Of marks whose least Between to those chosen is alike it is the least Id.
func TestChosenOfAlikeOnes(t *testing.T) {
	for _, c := range []struct{ numbers, chosen []int64 }{
		// Two ends alike far from the first, one way round and the other.
		{[]int64{0, 9, -9}, []int64{1, 2, 3}},
		{[]int64{0, -9, 9}, []int64{1, 2, 3}},
		// One nearer comes ahead of them, between them, or behind them.
		{[]int64{0, 1, 9, -9}, []int64{1, 3, 4, 2}},
		{[]int64{0, 9, 1, -9}, []int64{1, 2, 4, 3}},
		{[]int64{0, 9, -9, 1}, []int64{1, 2, 3, 4}},
		// Alike ones at one place: the other of them comes last.
		{[]int64{0, 9, 9}, []int64{1, 2, 3}},
		{[]int64{0, 9, 9, 5, 5}, []int64{1, 2, 4, 3, 5}},
		// The middle ones of two gaps, each gap's least Id ahead.
		{[]int64{0, 20, 10, 5, 15}, []int64{1, 2, 3, 4, 5}},
		{[]int64{0, 15, 5, 10, 20}, []int64{1, 5, 4, 2, 3}},
		// What was alike is not any more when one of them is chosen.
		{[]int64{0, 10, 11, -10, -11}, []int64{1, 3, 5, 2, 4}},
	} {
		for n := 1; n <= 4; n++ {
			for axis := range n {
				for _, kind := range kinds {
					chooses(t, axisMarks(n, axis, c.numbers...), kind, c.chosen)
				}
			}
		}
	}
}

// Marks at one place are chosen by their Ids, each once, and reach all.
func TestCentersAtOnePlace(t *testing.T) {
	for n := 1; n <= 4; n++ {
		for _, x := range []int64{-1000, 0, 1000} {
			for count := 1; count <= impl.MaxMarks; count++ {
				ids := risingIds(int64(17*count), count)
				list := marksOf(ids, slices.Repeat([]int64{x}, n)...)
				for _, kind := range kinds {
					for _, k := range []int64{1, int64(count+1) / 2, int64(count)} {
						if g := impl.Chosen(list, k, kind); !slices.Equal(g, ids[:k]) {
							t.Fatalf("Chosen(%v, %d, %d) = %v", list, k, kind, g)
						}
						if g := impl.Radius(list, ids[count-1:], kind); g != 0 {
							t.Fatalf("Radius(%v, %v, %d) = %d", list, ids[count-1:], kind, g)
						}
						if g := impl.BestRadius(list, k, kind); count <= mostTried && g != 0 || count > mostTried && g != -1 {
							t.Fatalf("BestRadius(%v, %d, %d) = %d", list, k, kind, g)
						}
					}
				}
			}
		}
	}
	// Two places: one of each, then the others by their Ids.
	for n := 1; n <= 4; n++ {
		list := axisMarks(n, 0, 3, 3, 3, 8, 8, 3, 8)
		for i, kind := range kinds {
			gap := []int64{25, 5, 5}[i]
			radii(t, list, kind, []int64{1, 4, 2, 3, 5, 6, 7}, []int64{gap, 0, 0, 0, 0, 0, 0}, []int64{gap, 0, 0, 0, 0, 0, 0})
		}
	}
}

// With a k of as many as there are each is chosen once.
func TestAllChosen(t *testing.T) {
	for _, list := range centerMarks() {
		for _, kind := range kinds {
			chosen := impl.Chosen(list, int64(len(list)), kind)
			if g := impl.Radius(list, chosen, kind); g != 0 {
				t.Fatalf("Radius(%v, %v, %d) = %d", list, chosen, kind, g)
			}
			slices.Sort(chosen)
			if !slices.Equal(chosen, idsOfMarks(list)) {
				t.Fatalf("%v, kind %d: all chosen are %v", list, kind, chosen)
			}
		}
	}
}

// Ids from 1 to MaxId and numbers from -MaxAt to MaxAt are right.
func TestCentersAtTheEnds(t *testing.T) {
	for n := 1; n <= 4; n++ {
		low, high := slices.Repeat([]int64{-1000}, n), slices.Repeat([]int64{1000}, n)
		list := []impl.Mark{{Id: 1, At: low}, {Id: 2, At: make([]int64, n)}, {Id: impl.MaxId, At: high}}
		for i, kind := range kinds {
			far := []int64{int64(n) * 4000000, int64(n) * 2000, 2000}[i]
			near := []int64{int64(n) * 1000000, int64(n) * 1000, 1000}[i]
			radii(t, list, kind, []int64{1, impl.MaxId, 2}, []int64{far, near, 0}, []int64{near, near, 0})
		}
	}
}

// Ids may stand in any order, and one of them more than once.
func TestRadiusOfAnyIds(t *testing.T) {
	next := walkOf(112)
	for _, list := range centerMarks() {
		all := idsOfMarks(list)
		for _, kind := range kinds {
			for _, count := range []int{1, 2, 3, 7, len(list), len(list) + 1} {
				ids := someIds(next, list, count)
				want := radiusIn(list, ids, kind)
				turned := slices.Clone(ids)
				slices.Reverse(turned)
				sorted := slices.Sorted(slices.Values(ids))
				for _, same := range [][]int64{ids, turned, sorted, slices.Compact(slices.Clone(sorted)), slices.Concat(ids, turned), slices.Repeat(ids, 70)} {
					if g := impl.Radius(list, same, kind); g != want {
						t.Fatalf("Radius(%v, %v, %d) = %d, not %d", list, same, kind, g, want)
					}
				}
			}
			for _, id := range all {
				if g, want := impl.Radius(list, []int64{id}, kind), outermost(list, withIds(list, []int64{id})[0], kind); g != want {
					t.Fatalf("Radius(%v, %d, %d) = %d, not %d", list, id, kind, g, want)
				}
			}
		}
	}
}

// BestRadius is told of 8 marks, not of 9 and not of more, whatever k is;
// Chosen and Radius are, up to MaxMarks.
func TestHowManyMarksOfCenters(t *testing.T) {
	next := walkOf(113)
	for n := 1; n <= 4; n++ {
		for count := 1; count <= impl.MaxMarks+2; count++ {
			list := someMarks(next, count, n, 50)
			for _, kind := range kinds {
				for k := 1; k <= count; k++ {
					want := int64(-1)
					if count <= mostTried {
						want = bestIn(list, k, kind)
					}
					if g := impl.BestRadius(list, int64(k), kind); g != want {
						t.Fatalf("BestRadius(%v, %d, %d) = %d, not %d", list, k, kind, g, want)
					}
				}
				if count > impl.MaxMarks {
					noChoice(t, list, 1, kind)
					noChoice(t, list, int64(count), kind)
					noRadius(t, list, []int64{list[0].Id}, kind)
					continue
				}
				chooses(t, list, kind, chosenIn(list, kind))
			}
		}
	}
}

func TestCentersOfNoMarks(t *testing.T) {
	for _, none := range [][]impl.Mark{nil, {}, make([]impl.Mark, 0, 5)} {
		for _, kind := range slices.Concat(kinds, noKinds) {
			for _, k := range wrongCounts(0) {
				noChoice(t, none, k, kind)
			}
			for _, ids := range [][]int64{nil, {}, {0}, {1}, {1, 2}, {-1}, {least}, {greatest}} {
				noRadius(t, none, ids, kind)
			}
		}
	}
}

func TestChosenWrongCount(t *testing.T) {
	for _, list := range centerMarks() {
		for _, kind := range kinds {
			for _, k := range wrongCounts(len(list)) {
				noChoice(t, list, k, kind)
			}
		}
	}
}

func TestCentersWrongKind(t *testing.T) {
	for _, list := range centerMarks() {
		for _, kind := range noKinds {
			for _, k := range []int64{1, 2, int64(len(list)), int64(len(list)) + 1} {
				noChoice(t, list, k, kind)
			}
			noRadius(t, list, idsOfMarks(list), kind)
			noRadius(t, list, []int64{list[0].Id}, kind)
			noRadius(t, list, nil, kind)
		}
	}
}

func TestCentersWrongMarks(t *testing.T) {
	for _, list := range noMarks() {
		for _, kind := range append(slices.Clone(kinds), 0, 4) {
			for _, k := range slices.Concat([]int64{1, 2, 3, int64(len(list))}, wrongCounts(len(list))) {
				noChoice(t, list, k, kind)
			}
			noRadius(t, list, nil, kind)
			noRadius(t, list, idsOfMarks(list), kind)
			for _, m := range list {
				noRadius(t, list, []int64{m.Id}, kind)
			}
		}
	}
}

// One wrong mark in the place of each in turn is refused, also where the k or
// the Ids would not come to it.
func TestCentersWrongMarkInEachPlace(t *testing.T) {
	for n := 1; n <= 4; n++ {
		for _, count := range []int{1, 2, 8, 20} {
			list := someMarks(walkOf(uint64(n)), count, n, 9)
			for i := range list {
				for _, wrong := range noPlaces(n) {
					if count == 1 && impl.PointOk(wrong) {
						continue // Of one mark alone any length is right.
					}
					other := slices.Clone(list)
					other[i].At = wrong
					noChoice(t, other, 1, impl.BySteps)
					noChoice(t, other, int64(count), impl.ByReach)
					noRadius(t, other, []int64{list[0].Id}, impl.ByFar)
					noRadius(t, other, []int64{list[count-1].Id}, impl.BySteps)
				}
			}
		}
	}
}

// No Ids, and one in any place that is none of the marks', are refused.
func TestRadiusWrongIds(t *testing.T) {
	next := walkOf(114)
	for _, list := range centerMarks() {
		all := idsOfMarks(list)
		wrongs := []int64{0, -1, -all[0], least, greatest, impl.MaxId + 1, 1<<32 + all[0], all[0] - 1}
		for _, id := range all {
			if !slices.Contains(all, id+1) {
				wrongs = append(wrongs, id+1)
			}
		}
		for _, kind := range kinds {
			for _, none := range [][]int64{nil, {}, make([]int64, 0, 5)} {
				noRadius(t, list, none, kind)
			}
			for _, wrong := range wrongs {
				noRadius(t, list, []int64{wrong}, kind)
				noRadius(t, list, []int64{wrong, wrong}, kind)
				noRadius(t, list, slices.Concat([]int64{wrong}, all), kind)
				noRadius(t, list, slices.Concat(all, []int64{wrong}), kind)
				noRadius(t, list, slices.Insert(slices.Clone(all), int(next(int64(len(all)))), wrong), kind)
			}
		}
		if t.Failed() {
			return
		}
	}
}

func TestCentersArgumentsStay(t *testing.T) {
	next := walkOf(115)
	for _, marks := range slices.Concat(centerMarks(), noMarks(), [][]impl.Mark{nil}) {
		list, whole := roomyMarks(marks)
		kept := memory(whole)
		lists := [][]int64{nil, {0}, idsOfMarks(marks)}
		if len(marks) > 0 {
			lists = append(lists, someIds(next, marks, 5), append(someIds(next, marks, 2), -1))
		}
		for _, kind := range []int64{impl.ByFar, impl.BySteps, impl.ByReach, 0, 4} {
			for _, k := range []int64{0, 1, 2, 3, int64(len(marks)), int64(len(marks)) + 1, -1} {
				spoilNumbers(impl.Chosen(list, k, kind))
				impl.BestRadius(list, k, kind)
			}
			for _, some := range lists {
				ids, wholeIds := roomy(some)
				keptIds := slices.Clone(wholeIds)
				impl.Radius(list, ids, kind)
				if !slices.Equal(wholeIds, keptIds) {
					t.Fatalf("%v became %v", keptIds, wholeIds)
				}
			}
		}
		if !slices.Equal(memory(whole), kept) {
			t.Fatalf("%v became %v", marks, list)
		}
	}
}

// What is written over an answer or its arguments changes no other answer.
func TestChosenIsNew(t *testing.T) {
	for _, marks := range centerMarks() {
		for _, kind := range kinds {
			list, _ := roomyMarks(marks)
			all := int64(len(list))
			one, some, whole := impl.Chosen(list, 1, kind), impl.Chosen(list, (all+1)/2, kind), impl.Chosen(list, all, kind)
			want := slices.Clone(whole)
			spoilNumbers(impl.Chosen(list, all, kind))
			for i := range list {
				spoilNumbers(list[i].At)
				list[i].Id = -5
			}
			spoilNumbers(one)
			if !slices.Equal(some, want[:(all+1)/2]) || !slices.Equal(whole, want) {
				t.Fatalf("of %v, kind %d, they became %v and %v", marks, kind, some, whole)
			}
		}
	}
}
