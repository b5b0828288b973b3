package tests

import (
	"slices"
	"testing"

	"loop.example/g00273/impl"
)

// noWidths are numbers that are no Width.
var noWidths = []int64{0, -1, -2, -4, 5, 6, 8, impl.MaxId, 1 << 32, 1<<32 + 1, 1<<32 + 4, -1 << 32, least, least + 1, least + 4, greatest, greatest - 1}

// noNexts are numbers that are no Next, whatever the marks are.
var noNexts = []int64{0, -1, -2, -impl.MaxId, impl.MaxId + 1, impl.MaxId + 2, 1 << 32, 1<<32 + 1, 1<<32 + 500, least, least + 1, greatest, greatest - 1}

// feltCounts are some k of which three times as many are less than, just as
// many as and more than there may be.
var feltCounts = []int64{1, 2, 3, 7, 19, 20, 21, 30, impl.MaxMarks - 1, impl.MaxMarks}

func emptyState(width int64) impl.State {
	return impl.State{Width: width, Tower: emptyTower(1), Next: 1}
}

func copyState(s impl.State) impl.State {
	own := impl.State{Width: s.Width, Tower: copyTower(s.Tower), Next: s.Next}
	for _, m := range s.Marks {
		own.Marks = append(own.Marks, copyMark(m))
	}
	return own
}

func sameState(a, b impl.State) bool {
	return a.Width == b.Width && a.Next == b.Next && slices.EqualFunc(a.Marks, b.Marks, sameMark) && sameTower(a.Tower, b.Tower)
}

func isZeroState(s impl.State) bool {
	return s.Width == 0 && len(s.Marks) == 0 && isZeroTower(s.Tower) && s.Next == 0
}

func hasMark(list []impl.Mark, m impl.Mark) bool {
	return slices.ContainsFunc(list, func(other impl.Mark) bool { return sameMark(other, m) })
}

// stateIn is StateOk by the document's words.
func stateIn(s impl.State) bool {
	if s.Width < 1 || s.Width > 4 || !impl.MarksOk(s.Marks) || !towerIn(s.Tower) || s.Next < 1 || s.Next > 1000000 {
		return false
	}
	below := s.Tower.Webs[0].Marks
	for _, m := range below {
		if int64(len(m.At)) != s.Width || m.Id >= s.Next {
			return false
		}
	}
	for _, m := range s.Marks {
		if int64(len(m.At)) != s.Width || !hasMark(below, m) {
			return false
		}
	}
	return len(below) <= 60
}

// keptIn is Kept of what can be kept, by the document's words.
func keptIn(s impl.State, p []int64) impl.State {
	kept, m := copyState(s), impl.Mark{Id: s.Next, At: slices.Clone(p)}
	kept.Tower = raisedIn(s.Tower, m)
	kept.Marks = append(kept.Marks, m)
	kept.Next = s.Next + 1
	return kept
}

// goneIn is Gone of a State that has it, by the document's words.
func goneIn(s impl.State, id int64) impl.State {
	left := copyState(s)
	left.Marks = nil
	for _, m := range s.Marks {
		if m.Id != id {
			left.Marks = append(left.Marks, copyMark(m))
		}
	}
	return left
}

// exactIn is Exact of what is right, by the document's words.
func exactIn(s impl.State, q []int64, k int64) []impl.Hit { return upTo(allHits(s.Marks, q), int(k)) }

// feltIn is Felt of what is right, by the document's words.
func feltIn(s impl.State, q []int64, k int64) []impl.Hit {
	felt, ids := []impl.Hit{}, idsOfMarks(s.Marks)
	for _, h := range askedIn(s.Tower, q, min(60, 3*k)) {
		if slices.Contains(ids, h.Id) {
			felt = append(felt, h)
		}
	}
	return upTo(felt, int(k))
}

// isFull asks whether no more marks can be raised.
func isFull(s impl.State) bool { return len(s.Tower.Webs[0].Marks) == impl.MaxMarks }

// goneOf are Ids of marks: the first, the last, and one in the middle.
func goneOf(list []impl.Mark) []int64 {
	if len(list) == 0 {
		return nil
	}
	ids := idsOfMarks(list)
	return slices.Compact([]int64{ids[0], ids[len(ids)/2], ids[len(ids)-1]})
}

// notThere are Ids that are none of the marks'.
func notThere(list []impl.Mark) []int64 {
	ids, others := idsOfMarks(list), []int64{}
	all := []int64{0, -1, 1, 2, impl.MaxMarks, impl.MaxId, impl.MaxId + 1, 1<<32 + 1, least, least + 1, greatest}
	for _, id := range goneOf(list) {
		all = append(all, id-1, id+1, -id, id+1<<32, id+least)
	}
	for _, id := range all {
		if !slices.Contains(ids, id) {
			others = append(others, id)
		}
	}
	return others
}

// pointOf is a point drawn.
func pointOf(next func(int64) int64, n int, wide int64) []int64 {
	return someMarks(next, 1, n, wide)[0].At
}

// stateGrown has as many points kept one after the other, by the document's
// words, and now and then one of them gone.
func stateGrown(next func(int64) int64, width int64, count int, wide int64) impl.State {
	s := emptyState(width)
	for range count {
		s = keptIn(s, pointOf(next, int(width), wide))
		if ids := goneOf(s.Marks); next(3) == 0 {
			s = goneIn(s, ids[next(int64(len(ids)))])
		}
	}
	return s
}

// stateOver has this right tower, all marks of its Web 0 but as many that are
// gone, and Next that far behind the last Id.
func stateOver(next func(int64) int64, tower impl.Tower, width int64, gone int, ahead int64) impl.State {
	below := tower.Webs[0]
	s := impl.State{Width: width, Marks: below.Marks, Tower: tower, Next: lastMark(below).Id + ahead}
	for range gone {
		s.Marks = without(s.Marks, int(next(int64(len(s.Marks)))))
	}
	return copyState(s)
}

// manyStates are right States of each Width, of no mark up to as many as there
// may be, of which none, some and all are gone: grown, and upon any tower.
func manyStates() []impl.State {
	next, states := walkOf(16), []impl.State{}
	for width := int64(1); width <= 4; width++ {
		states = append(states, emptyState(width))
		for _, wide := range []int64{0, 3, 40, 1000} {
			for _, count := range []int{1, 2, 4, 9, 25, impl.MaxMarks - 1, impl.MaxMarks} {
				states = append(states, stateGrown(next, width, count, wide))
			}
		}
	}
	for i, tower := range manyTowers() {
		many, width := len(tower.Webs[0].Marks), int64(long(tower.Webs[0].Marks))
		if many == 0 {
			width = 1 + int64(i)%4
		}
		for j, gone := range slices.Compact([]int{0, many / 3, many - many/6, many}) {
			if (i+j)%3 == 0 {
				states = append(states, stateOver(next, tower, width, gone, []int64{0, 1, 17}[next(3)]))
			}
		}
	}
	return states
}

// eachState goes through many States, and places as long as their Width.
func eachState(start uint64, do func(s impl.State, q []int64)) {
	next := walkOf(start)
	for _, s := range manyStates() {
		all := places(next, s.Tower.Webs[0].Marks, int(s.Width))
		for _, q := range all[2:] {
			do(s, q)
		}
	}
}

func isState(t *testing.T, s impl.State) {
	t.Helper()
	if !impl.StateOk(s) || !stateIn(s) {
		t.Fatalf("StateOk(%v) is %t", s, impl.StateOk(s))
	}
}

// keeps asks for a State with one more mark, with the Id Next.
func keeps(t *testing.T, s impl.State, p []int64) impl.State {
	t.Helper()
	g, id := impl.Kept(s, p)
	if id != s.Next || g.Next != id+1 || len(g.Marks) != len(s.Marks)+1 || !sameState(g, keptIn(s, p)) {
		t.Fatalf("Kept(%v, %v) = %v, %d", s, p, g, id)
	}
	isState(t, g)
	return g
}

// notKept asks for a right State as it is, and -1.
func notKept(t *testing.T, s impl.State, p []int64) {
	t.Helper()
	g, id := impl.Kept(s, p)
	if id != -1 || !sameState(g, s) {
		t.Fatalf("Kept(%v, %v) = %v, %d", s, p, g, id)
	}
	isState(t, g)
}

// goes asks for a State without this mark, which stays in the tower.
func goes(t *testing.T, s impl.State, id int64) impl.State {
	t.Helper()
	g, ok := impl.Gone(s, id)
	if !ok || len(g.Marks) != len(s.Marks)-1 || g.Next != s.Next || !sameTower(g.Tower, s.Tower) || !sameState(g, goneIn(s, id)) {
		t.Fatalf("Gone(%v, %d) = %v, %t", s, id, g, ok)
	}
	isState(t, g)
	return g
}

// notGone asks for a right State as it is, and false.
func notGone(t *testing.T, s impl.State, id int64) {
	t.Helper()
	g, ok := impl.Gone(s, id)
	if ok || !sameState(g, s) {
		t.Fatalf("Gone(%v, %d) = %v, %t", s, id, g, ok)
	}
	isState(t, g)
}

func tells(t *testing.T, s impl.State, q []int64, k int64, exact, felt []impl.Hit) {
	t.Helper()
	if g := impl.Exact(s, q, k); !slices.Equal(g, exact) {
		t.Fatalf("Exact(%v, %v, %d) = %v, not %v", s, q, k, g, exact)
	}
	if g := impl.Felt(s, q, k); !slices.Equal(g, felt) {
		t.Fatalf("Felt(%v, %v, %d) = %v, not %v", s, q, k, g, felt)
	}
}

// notState asks all functions for their fixed answers, with all else right.
func notState(t *testing.T, s impl.State) {
	t.Helper()
	if impl.StateOk(s) || stateIn(s) {
		t.Fatalf("StateOk(%v) is %t", s, impl.StateOk(s))
	}
	for n := 1; n <= 4; n++ {
		q := make([]int64, n)
		if g, id := impl.Kept(s, q); id != -1 || !isZeroState(g) {
			t.Fatalf("Kept(%v, %v) = %v, %d", s, q, g, id)
		}
		for _, k := range []int64{1, 20, impl.MaxMarks} {
			tells(t, s, q, k, nil, nil)
		}
	}
	for _, id := range append(idsOfMarks(s.Marks), s.Next, 0, 1) {
		if g, ok := impl.Gone(s, id); ok || !isZeroState(g) {
			t.Fatalf("Gone(%v, %d) = %v, %t", s, id, g, ok)
		}
	}
}

func TestNewState(t *testing.T) {
	for width := int64(1); width <= 4; width++ {
		g, ok := impl.NewState(width)
		if !ok || g.Width != width || g.Next != 1 || len(g.Marks) != 0 || !sameTower(g.Tower, impl.NewTower()) || !sameState(g, emptyState(width)) {
			t.Fatalf("NewState(%d) = %v, %t", width, g, ok)
		}
		isState(t, g)
		other, _ := impl.NewState(width)
		other.Tower.Webs[0] = lineWeb([]int64{5})
		again, _ := impl.NewState(width)
		if !sameState(g, emptyState(width)) || !sameState(again, emptyState(width)) {
			t.Errorf("NewState(%d) became %v and is %v", width, g, again)
		}
	}
}

func TestNewStateOfNoWidth(t *testing.T) {
	for _, width := range noWidths {
		if g, ok := impl.NewState(width); ok || !isZeroState(g) {
			t.Errorf("NewState(%d) = %v, %t", width, g, ok)
		}
	}
}

// fiveKept are 4, 7, 0, 5 and 9, kept one after the other.
func fiveKept(t *testing.T) impl.State {
	t.Helper()
	s, _ := impl.NewState(1)
	for _, x := range []int64{4, 7, 0, 5, 9} {
		s = keeps(t, s, []int64{x})
	}
	return s
}

// The dice of the first marks: 388, 143965, 410873, 433444, 807261.
func TestKeptOrdinary(t *testing.T) {
	list := axisMarks(1, 0, 4, 7, 0, 5, 9)
	zero := [][][]int64{
		{{}},
		{{2}, {1}},
		{{2, 3}, {1, 3}, {1, 2}},
		{{2, 3, 4}, {1, 3, 4}, {1, 2, 4}, {1, 2, 3}},
		{{2, 3, 4, 5}, {1, 3, 4, 5}, {1, 2, 4}, {1, 2, 3, 5}, {1, 2, 4}},
	}
	one := webOf(list[:1])
	both := webOf([]impl.Mark{list[0], list[3]}, [2]int64{1, 4})
	s, _ := impl.NewState(1)
	for i, c := range []struct {
		dice  int64
		first impl.Web
	}{{388, one}, {143965, one}, {410873, one}, {433444, both}, {807261, both}} {
		g, id := impl.Kept(s, list[i].At)
		tower := impl.Tower{Dice: c.dice, Webs: []impl.Web{{Marks: list[:i+1], Links: zero[i]}, c.first, {}, {}}}
		want := impl.State{Width: 1, Marks: list[:i+1], Tower: tower, Next: int64(i) + 2}
		if id != int64(i)+1 || !sameState(g, want) {
			t.Fatalf("Kept(%v, %v) = %v, %d, not %v", s, list[i].At, g, id, want)
		}
		s = g
	}
}

func TestGoneOrdinary(t *testing.T) {
	for _, c := range []struct{ gone, left []int64 }{
		{nil, []int64{1, 2, 3, 4, 5}}, {[]int64{1}, []int64{2, 3, 4, 5}}, {[]int64{5}, []int64{1, 2, 3, 4}}, {[]int64{3}, []int64{1, 2, 4, 5}},
		{[]int64{5, 1, 3}, []int64{2, 4}}, {[]int64{4, 2}, []int64{1, 3, 5}}, {[]int64{2, 1, 5, 4}, []int64{3}}, {[]int64{3, 4, 2, 1, 5}, nil},
	} {
		five := fiveKept(t)
		s := five
		for _, id := range c.gone {
			s = goes(t, s, id)
			notGone(t, s, id)
		}
		if !slices.Equal(idsOfMarks(s.Marks), c.left) || s.Next != 6 || !sameTower(s.Tower, five.Tower) {
			t.Errorf("without %v it is %v", c.gone, s)
		}
		g, id := impl.Kept(s, []int64{6})
		if id != 6 || g.Next != 7 || !slices.Equal(idsOfMarks(g.Marks), append(c.left, 6)) || len(g.Tower.Webs[0].Marks) != 6 {
			t.Errorf("without %v, with 6 it is %v, %d", c.gone, g, id)
		}
	}
}

func TestTellsOrdinary(t *testing.T) {
	all := []impl.Hit{{Id: 2, Far: 1}, {Id: 4, Far: 1}, {Id: 1, Far: 4}, {Id: 5, Far: 9}, {Id: 3, Far: 36}}
	for _, c := range []struct {
		gone        []int64
		k           int64
		exact, felt []impl.Hit
	}{
		{nil, 1, all[:1], all[:1]}, {nil, 2, all[:2], all[:2]}, {nil, 4, all[:4], all[:4]}, {nil, 5, all, all}, {nil, 6, all, all}, {nil, impl.MaxMarks, all, all},
		{[]int64{2}, 1, all[1:2], all[1:2]}, {[]int64{2}, 4, all[1:], all[1:]}, {[]int64{3}, 5, all[:4], all[:4]},
		{[]int64{4, 2}, 1, all[2:3], all[2:3]}, {[]int64{4, 2}, 2, all[2:4], all[2:4]},
		// For one only three are asked, be they all gone.
		{[]int64{2, 4, 1}, 1, all[3:4], nil}, {[]int64{2, 4, 1}, 2, all[3:], all[3:]}, {[]int64{2, 4, 1, 5}, 2, all[4:], all[4:]},
		{[]int64{5, 4, 3, 2, 1}, 1, nil, nil}, {[]int64{5, 4, 3, 2, 1}, impl.MaxMarks, nil, nil},
	} {
		s := fiveKept(t)
		for _, id := range c.gone {
			s = goes(t, s, id)
		}
		tells(t, s, []int64{6}, c.k, c.exact, c.felt)
	}
}

// Promise 16: grown from NewState on, a State is right with each step, has
// each Id once, and what is gone stays in the tower.
func TestStatesGrown(t *testing.T) {
	next, reached := walkOf(181), 0
	for width := int64(1); width <= 4; width++ {
		for _, wide := range []int64{0, 2, 30, 1000} {
			for rarely := int64(1); rarely <= 5; rarely++ {
				s, _ := impl.NewState(width)
				for id := int64(1); id <= impl.MaxMarks; id++ {
					s = keeps(t, s, pointOf(next, int(width), wide))
					if ids := goneOf(s.Marks); next(rarely) == 0 {
						s = goes(t, s, ids[next(int64(len(ids)))])
					}
					if s.Next != id+1 || !slices.Equal(idsOfMarks(s.Tower.Webs[0].Marks), risingIds(1, int(id))) {
						t.Fatalf("after %d it is %v", id, s)
					}
				}
				reached += len(s.Marks)
				notKept(t, s, make([]int64, width))
			}
		}
	}
	if reached < 1000 {
		t.Errorf("only %d were left", reached)
	}
}

// Promise 16: whatever is kept or goes, and whether it is told true or not, a
// right State is right again.
func TestStateStaysRight(t *testing.T) {
	next, kept, full := walkOf(182), 0, 0
	for _, s := range manyStates() {
		isState(t, s)
		for _, p := range places(next, s.Tower.Webs[0].Marks, int(s.Width)) {
			s.Tower.Dice = []int64{next(diceCount), diceAhead(64 * next(15000)), diceAhead(4 * next(250000))}[next(3)]
			if isFull(s) {
				notKept(t, s, p)
				full++
				continue
			}
			keeps(t, s, p)
			kept++
		}
		for _, id := range goneOf(s.Marks) {
			left := goes(t, s, id)
			notGone(t, left, id)
		}
		for _, id := range notThere(s.Marks) {
			notGone(t, s, id)
		}
		wrong := noPlaces(int(s.Width))
		for range 4 {
			notKept(t, s, wrong[next(int64(len(wrong)))])
		}
	}
	if kept < 5000 || full < 100 {
		t.Errorf("%d kept, %d times full", kept, full)
	}
}

// truth asks that all hits be of marks of the State, with their true
// distances, in order, and no more than k.
func truth(t *testing.T, s impl.State, q []int64, k int64, told []impl.Hit) {
	t.Helper()
	all := allHits(s.Marks, q)
	for i, h := range told {
		if !slices.Contains(all, h) || i > 0 && byOrder(told[i-1], h) >= 0 {
			t.Fatalf("of %v at %v for %d: %v", s, q, k, told)
		}
	}
	if int64(len(told)) > k {
		t.Fatalf("of %v at %v for %d: %v", s, q, k, told)
	}
}

// Promise 16: what is felt are some of the Marks, with their true distances.
func TestFeltAreMarks(t *testing.T) {
	next, some, fewer, none := walkOf(183), 0, 0, 0
	eachState(184, func(s impl.State, q []int64) {
		for _, k := range append(counts(len(s.Marks)), feltCounts[next(int64(len(feltCounts)))]) {
			felt := impl.Felt(s, q, k)
			truth(t, s, q, k, felt)
			exact := exactIn(s, q, k)
			switch {
			case len(felt) == 0:
				none++
			case slices.Equal(felt, exact):
				some++
			default:
				fewer++
			}
			tells(t, s, q, k, exact, feltIn(s, q, k))
		}
	})
	if some < 5000 || fewer < 500 || none < 500 {
		t.Errorf("%d are the nearest, %d others, %d none", some, fewer, none)
	}
}

// None that is gone is felt, though the tower has it, and where all is linked
// those left are felt in its stead.
func TestFeltNoneGone(t *testing.T) {
	next := walkOf(185)
	for n := 1; n <= 4; n++ {
		s := stateGrown(next, int64(n), 9, 20)
		s.Marks = copyWeb(s.Tower.Webs[0]).Marks
		for len(s.Marks) > 0 {
			for _, q := range places(next, s.Tower.Webs[0].Marks, n) {
				for _, k := range []int64{3, 4, 9, impl.MaxMarks} {
					tells(t, s, q, k, exactIn(s, q, k), exactIn(s, q, k))
				}
			}
			gone := s.Marks[next(int64(len(s.Marks)))].Id
			s, _ = impl.Gone(s, gone)
			for _, h := range impl.Felt(s, s.Tower.Webs[0].Marks[gone-1].At, impl.MaxMarks) {
				if h.Id == gone {
					t.Fatalf("%d is gone from %v, and felt", gone, s)
				}
			}
		}
	}
}

// linkedAll is a State of as many marks in a row from nought on, each linked
// to each, of which all up to the Id gone are gone.
func linkedAll(n, count int, gone int64) impl.State {
	numbers := make([]int64, count)
	for i := range numbers {
		numbers[i] = int64(i)
	}
	list := axisMarks(n, n-1, numbers...)
	tower := withWeb(emptyTower(1), 0, webOf(list, allPairs(idsOfMarks(list))...))
	return copyState(impl.State{Width: int64(n), Marks: list[gone:], Tower: tower, Next: int64(count) + 1})
}

// Three times as many are asked as are to be felt, but no more than there may
// be: of the 60 only the farthest 20 are left.
func TestFeltOfThreeTimesAsMany(t *testing.T) {
	for n := 1; n <= 4; n++ {
		s, q := linkedAll(n, impl.MaxMarks, 40), make([]int64, n)
		isState(t, s)
		left := allHits(s.Marks, q)
		for _, c := range []struct {
			k    int64
			felt int
		}{{1, 0}, {2, 0}, {13, 0}, {14, 2}, {15, 5}, {18, 14}, {19, 17}, {20, 20}, {21, 20}, {22, 20}, {40, 20}, {59, 20}, {60, 20}} {
			tells(t, s, q, c.k, upTo(left, int(c.k)), left[:c.felt])
		}
		all := linkedAll(n, impl.MaxMarks, 0)
		for _, k := range feltCounts {
			first := upTo(allHits(all.Marks, q), int(k))
			tells(t, all, q, k, first, first)
		}
		for gone, felt := range []int{1, 1, 1, 0, 0} {
			few := linkedAll(n, 9, int64(gone))
			first := allHits(few.Marks, q)
			tells(t, few, q, 1, first[:1], first[:felt])
		}
	}
}

// Where nothing is linked only the one is felt at which one comes down.
func TestFeltWhereOneComesDown(t *testing.T) {
	next := walkOf(186)
	s := stateOver(next, deepTower(), 1, 0, 0)
	for x := int64(-10); x <= 80; x++ {
		for _, k := range []int64{1, 2, 20, impl.MaxMarks} {
			q := []int64{x}
			one := askedIn(s.Tower, q, 1)
			tells(t, s, q, k, exactIn(s, q, k), one)
			left := goes(t, s, one[0].Id)
			tells(t, left, q, k, exactIn(left, q, k), nil)
		}
	}
}

func TestStateOfNoMarks(t *testing.T) {
	for width := int64(1); width <= 4; width++ {
		s, q := emptyState(width), make([]int64, width)
		for _, k := range feltCounts {
			tells(t, s, q, k, nil, nil)
		}
		for _, id := range []int64{1, 0, -1, 2, impl.MaxId, least, greatest} {
			notGone(t, s, id)
		}
		for _, wrong := range noPlaces(int(width)) {
			notKept(t, s, wrong)
			tells(t, s, wrong, 1, nil, nil)
		}
	}
}

// Of one mark, alone and when it is gone.
func TestStateOfOneMark(t *testing.T) {
	for width := int64(1); width <= 4; width++ {
		for _, x := range []int64{0, -1000, 1000, 37} {
			p, q := slices.Repeat([]int64{x}, int(width)), slices.Repeat([]int64{1000}, int(width))
			s := keeps(t, emptyState(width), p)
			hit := []impl.Hit{{Id: 1, Far: width * (1000 - x) * (1000 - x)}}
			left := goes(t, s, 1)
			for _, k := range feltCounts {
				tells(t, s, q, k, hit, hit)
				tells(t, left, q, k, nil, nil)
			}
			notGone(t, left, 1)
			notGone(t, s, 2)
		}
	}
}

// A mark that is gone stays in the tower: its Id does not come again, its
// place may, and who is kept later is linked to it.
func TestGoneStaysInTheTower(t *testing.T) {
	for width := int64(1); width <= 4; width++ {
		p := slices.Repeat([]int64{8}, int(width))
		s := keeps(t, emptyState(width), p)
		s = goes(t, s, 1)
		s = keeps(t, s, p)
		below := s.Tower.Webs[0]
		if !slices.Equal(idsOfMarks(s.Marks), []int64{2}) || !slices.Equal(idsOfMarks(below.Marks), []int64{1, 2}) || !slices.Equal(linksOf(below, 2), []int64{1}) {
			t.Fatalf("it is %v", s)
		}
		hit := []impl.Hit{{Id: 2}}
		tells(t, s, p, 1, hit, hit)
		notGone(t, s, 1)
	}
}

// Points at one place are told by their Ids, the less one ahead; so are those
// as far on all sides.
func TestTellsOfAlike(t *testing.T) {
	for width := int64(1); width <= 4; width++ {
		p, alike := slices.Repeat([]int64{-3}, int(width)), []impl.Hit{}
		s := emptyState(width)
		for id := int64(1); id <= 12; id++ {
			s = keeps(t, s, p)
			alike = append(alike, impl.Hit{Id: id})
			for _, k := range counts(int(id)) {
				tells(t, s, p, k, upTo(alike, int(k)), feltIn(s, p, k))
			}
		}
		tells(t, goes(t, s, 1), p, 3, alike[1:4], alike[1:4])
		tells(t, goes(t, s, 12), p, 12, alike[:11], alike[:11])
	}
	for _, c := range [][]int64{{7, 3}, {3, 7}} {
		s := keeps(t, keeps(t, emptyState(1), c[:1]), c[1:])
		both := []impl.Hit{{Id: 1, Far: 4}, {Id: 2, Far: 4}}
		tells(t, s, []int64{5}, 1, both[:1], both[:1])
		tells(t, s, []int64{5}, 2, both, both)
		tells(t, goes(t, s, 1), []int64{5}, 1, both[1:], both[1:])
	}
	s := emptyState(2)
	for _, p := range [][]int64{{0, 5}, {5, 0}, {3, 4}, {-4, 3}, {-3, -4}} {
		s = keeps(t, s, p)
	}
	for _, k := range counts(5) {
		five := upTo([]impl.Hit{{Id: 1, Far: 25}, {Id: 2, Far: 25}, {Id: 3, Far: 25}, {Id: 4, Far: 25}, {Id: 5, Far: 25}}, int(k))
		tells(t, s, []int64{0, 0}, k, five, five)
	}
}

// One less than MaxId is the last Id that is kept; then Next is MaxId.
func TestKeptUpToMaxId(t *testing.T) {
	next := walkOf(187)
	for width := int64(1); width <= 4; width++ {
		p := make([]int64, width)
		for _, count := range []int{0, 1, 5, impl.MaxMarks - 2} {
			s := stateGrown(next, width, count, 50)
			for _, start := range []int64{impl.MaxId - 2, impl.MaxId - 1, impl.MaxId} {
				s.Next = start
				isState(t, s)
				kept := copyState(s)
				for kept.Next < impl.MaxId {
					kept = keeps(t, kept, p)
				}
				notKept(t, kept, p)
				if kept.Next != impl.MaxId || int64(len(kept.Marks)) != int64(len(s.Marks))+impl.MaxId-start {
					t.Fatalf("from %v it became %v", s, kept)
				}
				tells(t, kept, p, 20, exactIn(kept, p, 20), feltIn(kept, p, 20))
				for _, id := range goneOf(kept.Marks) {
					notKept(t, goes(t, kept, id), p)
				}
			}
		}
	}
}

// Web 0 has at most MaxMarks, and those that are gone are among them.
func TestKeptUpToMaxMarks(t *testing.T) {
	next := walkOf(188)
	for width := int64(1); width <= 4; width++ {
		s, _ := impl.NewState(width)
		for range impl.MaxMarks {
			s = keeps(t, s, pointOf(next, int(width), 9))
		}
		for len(s.Marks) > 0 {
			notKept(t, s, pointOf(next, int(width), 9))
			for _, dice := range startDice() {
				s.Tower.Dice = dice
				notKept(t, s, s.Tower.Webs[0].Marks[0].At)
			}
			ids := goneOf(s.Marks)
			s = goes(t, s, ids[next(int64(len(ids)))])
		}
		notKept(t, s, make([]int64, width))
		tells(t, s, make([]int64, width), impl.MaxMarks, nil, nil)
	}
}

// Next may be any number above all Ids.
func TestKeptWithNext(t *testing.T) {
	for _, start := range []int64{6, 7, 60, 61, 500, impl.MaxId - 1} {
		s := fiveKept(t)
		s.Next = start
		g := keeps(t, s, []int64{2})
		if !slices.Equal(idsOfMarks(g.Marks), []int64{1, 2, 3, 4, 5, start}) || g.Next != start+1 {
			t.Errorf("Kept(%v, [2]) = %v", s, g)
		}
		notGone(t, s, start)
		goes(t, g, start)
	}
}

// someStates are a few right States of each Width, with marks and without.
func someStates() []impl.State {
	next, states := walkOf(189), []impl.State{}
	for width := int64(1); width <= 4; width++ {
		for _, count := range []int{0, 1, 3, 12, impl.MaxMarks} {
			s := stateGrown(next, width, count, 30)
			states = append(states, s, stateOver(next, s.Tower, width, 0, 5), stateOver(next, s.Tower, width, count, 0))
		}
	}
	return states
}

func TestStateWrongWidth(t *testing.T) {
	for _, s := range someStates() {
		width := s.Width
		isState(t, s)
		for _, s.Width = range append([]int64{1, 2, 3, 4}, noWidths...) {
			switch {
			case s.Width < 1 || s.Width > 4:
				notState(t, s)
			case s.Width != width && len(s.Tower.Webs[0].Marks) > 0:
				notState(t, s)
			default:
				isState(t, s)
			}
		}
	}
}

func TestStateWrongNext(t *testing.T) {
	for _, s := range someStates() {
		first, last := int64(1), lastMark(s.Tower.Webs[0]).Id-1
		for _, s.Next = range append([]int64{first, last - 1, last, last / 2}, noNexts...) {
			if s.Next != 1 || last > 0 {
				notState(t, s)
			}
		}
		for _, s.Next = range []int64{last + 1, last + 2, impl.MaxId - 1, impl.MaxId} {
			isState(t, s)
		}
	}
	// Those below Next need not be the ones left: what is gone counts too.
	s := fiveKept(t)
	s.Marks = s.Marks[:1]
	for s.Next = 1; s.Next <= 5; s.Next++ {
		notState(t, s)
	}
	isState(t, s)
}

// Marks that are not right, though some or all of them are Web 0's.
func TestStateWrongMarks(t *testing.T) {
	for _, list := range noMarks() {
		for _, s := range []impl.State{emptyState(1), emptyState(2), emptyState(4), fiveKept(t)} {
			s.Marks = list
			notState(t, s)
		}
	}
	next := walkOf(190)
	for _, s := range someStates() {
		s.Marks = s.Tower.Webs[0].Marks
		many := len(s.Marks)
		isState(t, s)
		for i := range many {
			double := slices.Insert(slices.Clone(s.Marks), i, s.Marks[i])
			notState(t, impl.State{Width: s.Width, Marks: double, Tower: s.Tower, Next: s.Next})
		}
		if many > 1 {
			swapped, at := slices.Clone(s.Marks), 1+next(int64(many)-1)
			swapped[at-1], swapped[at] = swapped[at], swapped[at-1]
			notState(t, impl.State{Width: s.Width, Marks: swapped, Tower: s.Tower, Next: s.Next})
		}
	}
}

// Each mark of Marks is one of Web 0's: it has its Id and its place.
func TestStateMarksNotBelow(t *testing.T) {
	for _, s := range someStates() {
		below := s.Tower.Webs[0].Marks
		for _, m := range []impl.Mark{lastMark(s.Tower.Webs[0], make([]int64, s.Width)...), {Id: impl.MaxId, At: make([]int64, s.Width)}} {
			other := copyState(s)
			other.Next = min(m.Id+1, impl.MaxId)
			other.Marks = append(other.Marks, m)
			notState(t, other)
			other.Marks = []impl.Mark{m}
			notState(t, other)
		}
		for i, m := range below {
			if len(below) == impl.MaxMarks && i%9 > 0 {
				continue
			}
			for axis := range m.At {
				moved := copyMark(m)
				moved.At[axis]--
				list := slices.Clone(below)
				list[i] = moved
				for _, marks := range [][]impl.Mark{list, {moved}} {
					notState(t, impl.State{Width: s.Width, Marks: marks, Tower: s.Tower, Next: s.Next})
				}
			}
			other := copyMark(m)
			if s.Width > 1 {
				other.At = other.At[:s.Width-1]
			} else {
				other.At = append(other.At, 0)
			}
			notState(t, impl.State{Width: s.Width, Marks: []impl.Mark{other}, Tower: s.Tower, Next: s.Next})
			notState(t, impl.State{Width: int64(len(other.At)), Marks: []impl.Mark{other}, Tower: s.Tower, Next: s.Next})
		}
	}
	// The Id of another mark, at the place of one, and of none.
	list := axisMarks(2, 1, 10, 20, 30, 40)
	tower := towerGrown(1, []impl.Mark{list[0], list[2]})
	for _, c := range []struct {
		marks []impl.Mark
		right bool
	}{
		{nil, true}, {list[:1], true}, {list[2:3], true}, {[]impl.Mark{list[0], list[2]}, true},
		{list[1:2], false}, {list[:2], false}, {list[:3], false}, {list[2:], false},
		{[]impl.Mark{{Id: 1, At: []int64{0, 30}}}, false}, {[]impl.Mark{{Id: 3, At: []int64{0, 10}}}, false}, {[]impl.Mark{{Id: 2, At: []int64{0, 10}}}, false},
		{[]impl.Mark{{Id: 1, At: []int64{0, 30}}, {Id: 3, At: []int64{0, 10}}}, false}, {[]impl.Mark{list[0], {Id: 3, At: []int64{30, 0}}}, false},
	} {
		s := impl.State{Width: 2, Marks: c.marks, Tower: tower, Next: 9}
		if c.right {
			isState(t, s)
		} else {
			notState(t, s)
		}
	}
}

// A mark that only a higher web has is in no right tower; one that only the
// lowest has may be in Marks.
func TestStateMarksOfWebZero(t *testing.T) {
	s := fiveKept(t)
	s.Tower.Webs[1] = impl.Web{}
	isState(t, s)
	s.Tower = withWeb(emptyTower(1), 1, webOf(s.Marks))
	notState(t, s)
	s.Tower = upperMarks(emptyTower(1), 0, s.Marks)
	isState(t, s)
	s.Tower = upperMarks(emptyTower(1), 0, s.Marks[:4])
	notState(t, s)
}

func TestStateWrongTower(t *testing.T) {
	for _, s := range someStates() {
		for _, dice := range noDice {
			other := copyState(s)
			other.Tower.Dice = dice
			notState(t, other)
		}
		for webs := range 7 {
			other := copyState(s)
			other.Tower.Webs = append(other.Tower.Webs, make([]impl.Web, 3)...)[:webs]
			if webs != towerWebs {
				notState(t, other)
			}
		}
		if len(s.Tower.Webs[0].Marks) > 12 {
			continue
		}
		for n, w := range s.Tower.Webs {
			for _, wrong := range wrongLinks(w) {
				notState(t, impl.State{Width: s.Width, Marks: s.Marks, Tower: withWeb(s.Tower, n, wrong), Next: s.Next})
			}
		}
		for _, list := range noMarks() {
			wrong := impl.Web{Marks: list, Links: make([][]int64, len(list))}
			notState(t, impl.State{Width: s.Width, Marks: s.Marks, Tower: withWeb(s.Tower, 0, wrong), Next: impl.MaxId})
			notState(t, impl.State{Width: s.Width, Tower: withWeb(s.Tower, 3, wrong), Next: impl.MaxId})
		}
	}
	notState(t, impl.State{})
	notState(t, impl.State{Width: 1, Next: 1})
	notState(t, impl.State{Width: 1, Tower: impl.NewTower()})
	notState(t, impl.State{Tower: impl.NewTower(), Next: 1})
}

// Marks of Web 0 of another length, be any of them left or none.
func TestStateTowerNotAsWide(t *testing.T) {
	next := walkOf(191)
	for width := int64(1); width <= 4; width++ {
		for other := int64(1); other <= 4; other++ {
			s := stateGrown(next, other, 6, 30)
			s.Width = width
			left := copyState(s)
			left.Marks = nil
			short := copyState(s)
			short.Marks = marksOf(idsOfMarks(s.Marks), make([]int64, width)...)
			for _, state := range []impl.State{s, left, short} {
				if width != other {
					notState(t, state)
				}
			}
		}
	}
}

// disturbedState has the State with one thing changed, which may leave it
// right.
func disturbedState(next func(int64) int64, s impl.State) impl.State {
	other := copyState(s)
	many := int64(len(s.Marks))
	switch next(6) {
	case 0:
		other.Width += next(3) - 1
	case 1:
		other.Next += []int64{-1, 1, -s.Next, impl.MaxId - s.Next, impl.MaxId - s.Next + 1}[next(5)]
	case 2:
		other.Tower = disturbedTower(next, other.Tower)
	case 3:
		if many > 0 {
			other.Marks[next(many)].Id += next(3) - 1
		}
	case 4:
		if many > 0 {
			other.Marks[next(many)].At[0] += next(2)
		}
	default:
		other.Marks = copyWeb(s.Tower.Webs[next(2)]).Marks
	}
	return other
}

// States drawn near to what is right: some are, some are not.
func TestStateOkByItsWords(t *testing.T) {
	next, right, wrong := walkOf(192), 0, 0
	for range 10000 {
		s := stateGrown(next, 1+next(4), int(next(6)), 9)
		for range 1 + next(2) {
			s = disturbedState(next, s)
		}
		if !stateIn(s) {
			notState(t, s)
			wrong++
			continue
		}
		isState(t, s)
		q, k := make([]int64, s.Width), 1+next(5)
		tells(t, s, q, k, exactIn(s, q, k), feltIn(s, q, k))
		if s.Next < impl.MaxId {
			keeps(t, s, q)
		} else {
			notKept(t, s, q)
		}
		right++
	}
	if right < 2000 || wrong < 2000 {
		t.Errorf("%d right, %d wrong", right, wrong)
	}
}

func TestKeptOfNoPoint(t *testing.T) {
	for _, s := range someStates() {
		for _, p := range noPlaces(int(s.Width)) {
			notKept(t, s, p)
		}
	}
}

func TestGoneOfNone(t *testing.T) {
	for _, s := range someStates() {
		ids := idsOfMarks(s.Marks)
		for _, m := range s.Tower.Webs[0].Marks {
			if !slices.Contains(ids, m.Id) {
				notGone(t, s, m.Id)
			}
		}
		for _, id := range append(notThere(s.Marks), s.Next) {
			notGone(t, s, id)
		}
	}
}

func TestTellsNothing(t *testing.T) {
	for _, s := range someStates() {
		q := make([]int64, s.Width)
		for _, k := range noCounts {
			tells(t, s, q, k, nil, nil)
		}
		// Three times as many, wrapped round, would be 2, 1, 59 or a like number.
		for _, k := range []int64{6148914691236517206, -6148914691236517205, 6148914691236517225, -6148914691236517195} {
			tells(t, s, q, k, nil, nil)
		}
		for _, wrong := range noPlaces(int(s.Width)) {
			for _, k := range []int64{1, 20, impl.MaxMarks, 0} {
				tells(t, s, wrong, k, nil, nil)
			}
		}
	}
}

// Several wrong inputs together: a State that is not right is told first.
func TestStateWrongTogether(t *testing.T) {
	wrong, full := fiveKept(t), linkedAll(1, impl.MaxMarks, 3)
	wrong.Next = 5
	full.Next = impl.MaxId
	for _, p := range [][]int64{nil, {1}, {1001}, {1, 2}} {
		notKept(t, full, p)
		for _, s := range []impl.State{wrong, {}, {Width: 5, Tower: impl.NewTower(), Next: impl.MaxId + 1}} {
			if g, id := impl.Kept(s, p); id != -1 || !isZeroState(g) {
				t.Errorf("Kept(%v, %v) = %v, %d", s, p, g, id)
			}
			for _, k := range []int64{0, 1, impl.MaxMarks + 1} {
				tells(t, s, p, k, nil, nil)
			}
		}
	}
	wrong.Next = impl.MaxId + 1
	for _, id := range []int64{0, 1, 5, 6, impl.MaxId + 1} {
		if g, ok := impl.Gone(wrong, id); ok || !isZeroState(g) {
			t.Errorf("Gone(%v, %d) = %v, %t", wrong, id, g, ok)
		}
	}
}

// roomyState is the State with spare room behind all of its lists, and a look
// at the whole of that memory.
func roomyState(s impl.State) (impl.State, func() []int64) {
	marks, whole := roomyMarks(s.Marks)
	tower, look := roomyTower(s.Tower)
	return impl.State{Width: s.Width, Marks: marks, Tower: tower, Next: s.Next}, func() []int64 { return append(memory(whole), look()...) }
}

// spoilMarks writes over all of an answer's marks and the room behind them.
func spoilMarks(list []impl.Mark) { spoilWeb(impl.Web{Marks: list}) }

func spoilState(s impl.State) {
	spoilMarks(s.Marks)
	spoilTower(s.Tower)
}

// stateStays asks all functions, writes over what they answer, and looks
// whether an argument, or the room behind it, has changed.
func stateStays(t *testing.T, s impl.State, p []int64, id, k int64) {
	t.Helper()
	own, look := roomyState(s)
	ownP, wholeP := roomy(p)
	kept, keptP := look(), slices.Clone(wholeP)
	impl.StateOk(own)
	more, _ := impl.Kept(own, ownP)
	spoilState(more)
	less, _ := impl.Gone(own, id)
	spoilState(less)
	spoil(impl.Exact(own, ownP, k))
	spoil(impl.Felt(own, ownP, k))
	if own.Width != s.Width || own.Next != s.Next || own.Tower.Dice != s.Tower.Dice || !slices.Equal(look(), kept) || !slices.Equal(wholeP, keptP) {
		t.Fatalf("%v, %v became %v, %v", s, p, own, ownP)
	}
}

// idOf is of one of the marks, or of none of them.
func idOf(next func(int64) int64, list []impl.Mark) int64 {
	ids := append(goneOf(list), 0)
	return ids[next(int64(len(ids)))]
}

func TestStateArgumentsStay(t *testing.T) {
	next := walkOf(193)
	eachState(194, func(s impl.State, q []int64) {
		s.Tower.Dice = startDice()[next(7)]
		stateStays(t, s, q, idOf(next, s.Marks), 1+next(impl.MaxMarks))
	})
	for _, s := range someStates() {
		q, id := make([]int64, s.Width), idOf(next, s.Marks)
		for _, p := range noPlaces(int(s.Width)) {
			stateStays(t, s, p, id, 3)
		}
		for _, k := range noCounts {
			stateStays(t, s, q, -id, k)
		}
		for _, wrong := range []impl.State{
			{Width: 5, Marks: s.Marks, Tower: s.Tower, Next: s.Next}, {Width: s.Width%4 + 1, Marks: s.Marks, Tower: s.Tower, Next: s.Next},
			{Width: s.Width, Marks: s.Marks, Tower: s.Tower, Next: impl.MaxId}, {Width: s.Width, Marks: s.Marks, Tower: s.Tower, Next: impl.MaxId + 1},
			{Width: s.Width, Marks: s.Marks, Tower: s.Tower}, {Width: s.Width, Marks: s.Marks, Tower: impl.NewTower(), Next: s.Next},
			{Width: s.Width, Marks: s.Marks, Tower: impl.Tower{Dice: -1, Webs: s.Tower.Webs}, Next: s.Next},
			{Width: s.Width, Marks: s.Marks, Tower: impl.Tower{Dice: 1, Webs: s.Tower.Webs[:3]}, Next: s.Next},
		} {
			stateStays(t, wrong, q, id, 3)
		}
	}
	for _, list := range noMarks() {
		stateStays(t, impl.State{Width: 2, Marks: list, Tower: impl.NewTower(), Next: 500}, []int64{1, 2}, 1, 2)
	}
}

// What is written over arguments or another answer changes no answer, be the
// State another one or told as it is.
func TestStateAnswersAreNew(t *testing.T) {
	next, kept, gone := walkOf(195), [2]int{}, [2]int{}
	eachState(196, func(s impl.State, q []int64) {
		k, id := 1+next(impl.MaxMarks), idOf(next, s.Marks)
		s.Tower.Dice = startDice()[next(7)]
		more, p, less := copyState(s), slices.Clone(q), goneIn(s, id)
		if next(2) == 0 || isFull(s) {
			p[0] = 1001
			kept[0]++
		} else {
			more = keptIn(s, p)
			kept[1]++
		}
		gone[len(s.Marks)-len(less.Marks)]++
		own, _ := roomyState(s)
		ownP, _ := roomy(p)
		ownQ, _ := roomy(q)
		gotMore, _ := impl.Kept(own, ownP)
		gotLess, _ := impl.Gone(own, id)
		exact, felt := impl.Exact(own, ownQ, k), impl.Felt(own, ownQ, k)
		for range 2 {
			again, _ := impl.Kept(own, ownP)
			spoilState(again)
			again, _ = impl.Gone(own, id)
			spoilState(again)
			spoil(impl.Exact(own, ownQ, k))
			spoil(impl.Felt(own, ownQ, k))
		}
		spoilState(own)
		spoilNumbers(ownP)
		spoilNumbers(ownQ)
		if !sameState(gotMore, more) || !sameState(gotLess, less) || !slices.Equal(exact, exactIn(s, q, k)) || !slices.Equal(felt, feltIn(s, q, k)) {
			t.Fatalf("of %v, %v, %d, %d they became %v, %v, %v, %v", s, p, id, k, gotMore, gotLess, exact, felt)
		}
	})
	if min(kept[0], kept[1], gone[0], gone[1]) < 500 {
		t.Errorf("as they are %d and %d, other %d and %d", kept[0], gone[0], kept[1], gone[1])
	}
}

// listsOfState are all lists of numbers that a State has.
func listsOfState(s impl.State) [][]int64 {
	return append(listsIn(impl.Web{Marks: s.Marks}), listsOfTower(s.Tower)...)
}

// listsApart writes over one list of an answer after the other, with the room
// behind it, forth and back: all others stay. So do its lists of marks.
func listsApart(t *testing.T, made func() impl.State, want impl.State) {
	t.Helper()
	lists, forth, back := listsOfState(want), listsOfState(made()), listsOfState(made())
	for i := range lists {
		last := len(lists) - 1 - i
		if !sameCells(forth[i:], lists[i:]) || !sameCells(back[:last+1], lists[:last+1]) {
			t.Fatalf("%v or %v, not %v", forth[i:], back[:last+1], lists)
		}
		spoilNumbers(forth[i])
		spoilNumbers(back[last])
	}
	down, up := made(), made()
	spoilMarks(down.Marks)
	for n := range want.Tower.Webs {
		last := towerWebs - 1 - n
		if !slices.EqualFunc(down.Tower.Webs[n:], want.Tower.Webs[n:], sameWeb) || !slices.EqualFunc(up.Tower.Webs[:last+1], want.Tower.Webs[:last+1], sameWeb) {
			t.Fatalf("%v or %v, not %v", down, up, want)
		}
		spoilWeb(down.Tower.Webs[n])
		spoilWeb(up.Tower.Webs[last])
	}
	if !slices.EqualFunc(up.Marks, want.Marks, sameMark) {
		t.Fatalf("%v, not %v", up, want)
	}
}

// ownState asks that all that is made of a State have lists of its own.
func ownState(t *testing.T, s impl.State, p []int64) {
	t.Helper()
	was := copyState(s)
	keeping := func(p []int64) func() impl.State {
		return func() impl.State {
			g, _ := impl.Kept(s, p)
			return g
		}
	}
	going := func(id int64) func() impl.State {
		return func() impl.State {
			g, _ := impl.Gone(s, id)
			return g
		}
	}
	if !isFull(s) && s.Next < impl.MaxId {
		listsApart(t, keeping(p), keptIn(was, p))
	}
	listsApart(t, keeping(append(slices.Clone(p), 0)), was)
	listsApart(t, going(0), was)
	for _, id := range goneOf(was.Marks) {
		listsApart(t, going(id), goneIn(was, id))
	}
	if !sameState(s, was) {
		t.Fatalf("%v became %v", was, s)
	}
}

func TestStateListsAreApart(t *testing.T) {
	next := walkOf(197)
	for i, s := range manyStates() {
		if i%3 == 0 {
			s.Tower.Dice = startDice()[next(7)]
			ownState(t, s, make([]int64, s.Width))
		}
	}
	// All webs are one memory, and so are all marks, places and lists of links.
	for width := 1; width <= 4; width++ {
		one, links := slices.Repeat([]int64{5}, width), []int64{3, 4}
		w := impl.Web{Marks: []impl.Mark{{Id: 1, At: one}, {Id: 2, At: one}, {Id: 3, At: one}, {Id: 4, At: one}}, Links: [][]int64{links, links, {1, 2}, {1, 2}}}
		for _, dice := range startDice() {
			tower := impl.Tower{Dice: dice, Webs: []impl.Web{w, w, w, w}}
			for _, number := range []int64{5, 6, impl.MaxId} {
				ownState(t, impl.State{Width: int64(width), Marks: w.Marks, Tower: tower, Next: number}, one)
				ownState(t, impl.State{Width: int64(width), Marks: w.Marks[1:3], Tower: tower, Next: number}, one)
			}
		}
	}
}

// The place asked for and kept, and those of the State may be one memory.
func TestStateOfOneMemory(t *testing.T) {
	s := fiveKept(t)
	own, look := roomyState(s)
	was := look()
	for i, m := range own.Marks {
		for _, p := range [][]int64{m.At, own.Tower.Webs[0].Marks[i].At} {
			tells(t, own, p, 3, exactIn(s, s.Marks[i].At, 3), feltIn(s, s.Marks[i].At, 3))
			spoilState(keeps(t, own, p))
			spoilState(goes(t, own, m.Id))
		}
	}
	if !slices.Equal(look(), was) {
		t.Errorf("%v became %v", s, own)
	}
}
