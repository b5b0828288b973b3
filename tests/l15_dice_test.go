package tests

import (
	"slices"
	"testing"

	"loop.example/g00273/impl"
)

const (
	// diceCount is how many dice there are: from 0 on, all below it.
	diceCount = 1000003
	// towerWebs is how many webs a tower has.
	towerWebs = 4
	// towerLinked is to how many a mark is linked in each web.
	towerLinked = 3
)

// noDice are numbers that are no dice.
var noDice = []int64{-1, -2, -4, -64, -diceCount + 1, -diceCount, diceCount, diceCount + 1, 1000064, 2 * diceCount, 1 << 32, 1<<32 + 1, 1<<32 + 64, -1 << 32, least, least + 1, least + 64, greatest, greatest - 1, greatest - 63}

// rolledIn is Rolled of dice, by the document's words.
func rolledIn(dice int64) int64 { return (371*dice + 17) % diceCount }

// levelIn is Level of dice, by the document's words.
func levelIn(dice int64) int64 {
	level := int64(0)
	for _, by := range []int64{4, 4 * 4, 4 * 4 * 4} {
		if dice > 0 && dice%by == 0 {
			level++
		}
	}
	return level
}

// diceAhead are the dice of which these are rolled.
func diceAhead(rolled int64) int64 {
	// 371 times this is 1 by 1000003.
	const back = 145553
	return (rolled + diceCount - 17) % diceCount * back % diceCount
}

// startDice are dice with which the next mark comes up to Web 0, 1, 2, 3, and
// to 3 where 4 divides more often, or to 0 where all divides; and dice 1.
func startDice() []int64 {
	return []int64{1, diceAhead(2), diceAhead(12), diceAhead(16 * 5), diceAhead(64 * 7), diceAhead(4 * 4 * 4 * 4 * 4), diceAhead(0), 0, diceCount - 1}
}

func emptyTower(dice int64) impl.Tower {
	return impl.Tower{Dice: dice, Webs: make([]impl.Web, towerWebs)}
}

func copyTower(t impl.Tower) impl.Tower {
	own := impl.Tower{Dice: t.Dice}
	for _, w := range t.Webs {
		own.Webs = append(own.Webs, copyWeb(w))
	}
	return own
}

func sameTower(a, b impl.Tower) bool {
	return a.Dice == b.Dice && slices.EqualFunc(a.Webs, b.Webs, sameWeb)
}

func isZeroTower(t impl.Tower) bool { return t.Dice == 0 && len(t.Webs) == 0 }

// towerIn is TowerOk by the document's words.
func towerIn(t impl.Tower) bool {
	if t.Dice < 0 || t.Dice >= diceCount || len(t.Webs) != towerWebs {
		return false
	}
	for n, w := range t.Webs {
		if !webIn(w) {
			return false
		}
		for _, m := range w.Marks {
			if n > 0 && !slices.ContainsFunc(t.Webs[n-1].Marks, func(below impl.Mark) bool { return sameMark(below, m) }) {
				return false
			}
		}
	}
	return true
}

// raisedIn is Raised of what is right, by the document's words.
func raisedIn(t impl.Tower, m impl.Mark) impl.Tower {
	raised := copyTower(t)
	raised.Dice = rolledIn(t.Dice)
	for n := int64(0); n <= levelIn(raised.Dice); n++ {
		raised.Webs[n] = linkedIn(t.Webs[n], m, towerLinked)
	}
	return raised
}

// towerGrown has the marks raised one after the other, by the document's words.
func towerGrown(dice int64, list []impl.Mark) impl.Tower {
	t := emptyTower(dice)
	for _, m := range list {
		t = raisedIn(t, m)
	}
	return t
}

// peakOf is the number of the highest web with marks, -1 when there is none.
func peakOf(t impl.Tower) int {
	peak := -1
	for n, w := range t.Webs {
		if len(w.Marks) > 0 {
			peak = n
		}
	}
	return peak
}

// askedIn is Asked of what is right, by the document's words.
func askedIn(t impl.Tower, q []int64, k int64) []impl.Hit {
	peak := peakOf(t)
	if peak < 0 {
		return nil
	}
	from := t.Webs[peak].Marks[0].Id
	for n := peak; n > 0; n-- {
		way := walkIn(t.Webs[n], from, q)
		from = way[len(way)-1]
	}
	return upTo(beamIn(t.Webs[0], from, q, max(k, 4)), int(k))
}

// towerBuilt is a tower that was never grown: up to its peak each web has some
// of the marks of the web below it, tied together in any way.
func towerBuilt(next func(int64) int64, list []impl.Mark, peak int) impl.Tower {
	t := emptyTower(next(diceCount))
	for n := range peak + 1 {
		webs := websOf(next, list)
		t.Webs[n] = webs[next(int64(len(webs)))]
		fewer := slices.Clone(list)
		for range next(1 + int64(len(list))/2) {
			fewer = without(fewer, int(next(int64(len(fewer)))))
		}
		list = fewer
	}
	return t
}

// manyTowers are right towers of 1 to 4 numbers, of no mark up to as many as
// there may be: grown from many dice, and built.
func manyTowers() []impl.Tower {
	next, towers := walkOf(15), []impl.Tower{}
	for n := 1; n <= 4; n++ {
		for i, wide := range []int64{0, 2, 40, 1000} {
			for _, count := range []int{0, 1, 2, 3, 5, 9, 20} {
				for _, dice := range startDice() {
					towers = append(towers, towerGrown(dice, someMarks(next, count, n, wide)))
				}
			}
			for _, count := range []int{1, 2, 6, 12} {
				towers = append(towers, towerBuilt(next, someMarks(next, count, n, wide), i))
			}
		}
		for peak := range towerWebs {
			towers = append(towers, towerBuilt(next, someMarks(next, impl.MaxMarks-5*peak, n, 30), peak))
		}
		towers = append(towers, towerGrown(1, someMarks(next, impl.MaxMarks, n, 20)), towerGrown(next(diceCount), someMarks(next, impl.MaxMarks-1, n, 1000)))
	}
	return towers
}

// eachTower goes through many towers, and places as long as their marks.
func eachTower(start uint64, do func(tower impl.Tower, q []int64)) {
	next := walkOf(start)
	for _, tower := range manyTowers() {
		marks := tower.Webs[0].Marks
		for _, q := range places(next, marks, long(marks))[1:] {
			do(tower, q)
		}
	}
}

// askedCounts are some k below, at and above the least that is looked for.
var askedCounts = []int64{1, 2, 3, 4, 5, 9, impl.MaxMarks - 1, impl.MaxMarks}

func asks(t *testing.T, tower impl.Tower, q []int64, k int64, want []impl.Hit) {
	t.Helper()
	if g := impl.Asked(tower, q, k); !slices.Equal(g, want) {
		t.Fatalf("Asked(%v, %v, %d) = %v, not %v", tower, q, k, g, want)
	}
}

func isTower(t *testing.T, tower impl.Tower) {
	t.Helper()
	if !impl.TowerOk(tower) || !towerIn(tower) {
		t.Fatalf("TowerOk(%v) is %t", tower, impl.TowerOk(tower))
	}
}

// raises asks for a tower with one more mark: the dice rolled, the mark in
// just the webs up to their level, and no other web changed.
func raises(t *testing.T, tower impl.Tower, m impl.Mark) impl.Tower {
	t.Helper()
	g, ok := impl.Raised(tower, m)
	if !ok || len(g.Webs) != towerWebs || g.Dice != impl.Rolled(tower.Dice) {
		t.Fatalf("Raised(%v, %v) = %v, %t", tower, m, g, ok)
	}
	for n, w := range g.Webs {
		want := tower.Webs[n]
		if int64(n) <= impl.Level(g.Dice) {
			want, _ = impl.Linked(tower.Webs[n], m, towerLinked)
		}
		if !sameWeb(w, want) {
			t.Fatalf("Raised(%v, %v) = %v: Web %d is not %v", tower, m, g, n, want)
		}
	}
	if !sameTower(g, raisedIn(tower, m)) {
		t.Fatalf("Raised(%v, %v) = %v", tower, m, g)
	}
	isTower(t, g)
	return g
}

// notRaised asks for a right tower as it is, and false.
func notRaised(t *testing.T, tower impl.Tower, m impl.Mark) {
	t.Helper()
	if g, ok := impl.Raised(tower, m); ok || !sameTower(g, tower) {
		t.Fatalf("Raised(%v, %v) = %v, %t", tower, m, g, ok)
	}
}

// notTower asks all functions for their fixed answers, with all else right.
func notTower(t *testing.T, tower impl.Tower) {
	t.Helper()
	if impl.TowerOk(tower) {
		t.Fatalf("TowerOk(%v) is true", tower)
	}
	lengths, id := []int{1, 2, 3, 4}, int64(1)
	if len(tower.Webs) > 0 && len(tower.Webs[0].Marks) > 0 {
		marks := tower.Webs[0].Marks
		lengths, id = []int{len(marks[0].At)}, marks[len(marks)-1].Id+1
	}
	for _, n := range lengths {
		q := make([]int64, n)
		if g, ok := impl.Raised(tower, impl.Mark{Id: id, At: q}); ok || !isZeroTower(g) {
			t.Fatalf("Raised(%v, {%d %v}) = %v, %t", tower, id, q, g, ok)
		}
		for _, k := range []int64{1, 4, impl.MaxMarks} {
			asks(t, tower, q, k, nil)
		}
	}
}

func TestRolledOrdinary(t *testing.T) {
	for _, c := range []struct{ dice, want int64 }{
		{0, 17}, {1, 388}, {2, 759}, {388, 143965}, {143965, 410873}, {2695, 999862}, {2696, 230}, {5390, 999704}, {5391, 72},
		{1000, 371017}, {999999, 998536}, {1000000, 998907}, {1000001, 999278}, {1000002, 999649},
	} {
		if g := impl.Rolled(c.dice); g != c.want {
			t.Errorf("Rolled(%d) = %d, not %d", c.dice, g, c.want)
		}
	}
}

// One more in the dice is 371 more in what is rolled, round and round; so all
// dice are rolled, each of one.
func TestRolledOfAll(t *testing.T) {
	rolled, want := make([]bool, diceCount), int64(17)
	for dice := int64(0); dice < diceCount; dice++ {
		g := impl.Rolled(dice)
		if g != want || g != rolledIn(dice) || rolled[g] || diceAhead(g) != dice {
			t.Fatalf("Rolled(%d) = %d, not %d", dice, g, want)
		}
		rolled[g] = true
		want = (want + 371) % diceCount
	}
}

func TestLevelOrdinary(t *testing.T) {
	for _, c := range []struct{ dice, want int64 }{
		{0, 0}, {1, 0}, {2, 0}, {3, 0}, {5, 0}, {6, 0}, {10, 0}, {62, 0}, {63, 0}, {65, 0}, {999999, 0}, {1000001, 0}, {1000002, 0},
		{4, 1}, {8, 1}, {12, 1}, {20, 1}, {24, 1}, {388, 1}, {999996, 1},
		{16, 2}, {32, 2}, {48, 2}, {80, 2}, {96, 2}, {999952, 2},
		{64, 3}, {128, 3}, {192, 3}, {1000000, 3}, {256, 3}, {512, 3}, {1024, 3}, {4096, 3}, {16384, 3}, {65536, 3}, {262144, 3}, {524288, 3}, {786432, 3},
	} {
		if g := impl.Level(c.dice); g != c.want {
			t.Errorf("Level(%d) = %d, not %d", c.dice, g, c.want)
		}
	}
}

func TestLevelOfAll(t *testing.T) {
	many := [towerWebs]int{}
	for dice := int64(0); dice < diceCount; dice++ {
		g := impl.Level(dice)
		if g != levelIn(dice) {
			t.Fatalf("Level(%d) = %d, not %d", dice, g, levelIn(dice))
		}
		many[g]++
	}
	// Each fourth of those from 1 on that come to one comes higher: of the
	// 1000002 of them 250000 are divided by 4, 62500 by 16, 15625 by 64.
	if many != [towerWebs]int{diceCount - 250000, 250000 - 62500, 62500 - 15625, 15625} {
		t.Errorf("%v are of Level 0 to 3", many)
	}
}

func TestDiceOutOfRange(t *testing.T) {
	for _, dice := range noDice {
		if g := impl.Rolled(dice); g != -1 {
			t.Errorf("Rolled(%d) = %d", dice, g)
		}
		if g := impl.Level(dice); g != -1 {
			t.Errorf("Level(%d) = %d", dice, g)
		}
	}
}

func TestNewTower(t *testing.T) {
	g := impl.NewTower()
	if g.Dice != 1 || len(g.Webs) != towerWebs || !sameTower(g, emptyTower(1)) {
		t.Fatalf("NewTower() = %v", g)
	}
	isTower(t, g)
	other := impl.NewTower()
	other.Webs[0] = lineWeb([]int64{5})
	if !sameTower(g, emptyTower(1)) || !sameTower(impl.NewTower(), emptyTower(1)) {
		t.Errorf("NewTower() became %v and is %v", g, impl.NewTower())
	}
}

// The dice of the first marks: 388, 143965, 410873, 433444, 807261.
func TestRaisedOrdinary(t *testing.T) {
	list := []impl.Mark{{Id: 1, At: []int64{4}}, {Id: 2, At: []int64{7}}, {Id: 3, At: []int64{0}}, {Id: 6, At: []int64{5}}, {Id: 9, At: []int64{9}}}
	zero := []impl.Web{
		{Links: [][]int64{{}}},
		{Links: [][]int64{{2}, {1}}},
		{Links: [][]int64{{2, 3}, {1, 3}, {1, 2}}},
		{Links: [][]int64{{2, 3, 6}, {1, 3, 6}, {1, 2, 6}, {1, 2, 3}}},
		{Links: [][]int64{{2, 3, 6, 9}, {1, 3, 6, 9}, {1, 2, 6}, {1, 2, 3, 9}, {1, 2, 6}}},
	}
	one := webOf(list[:1])
	both := webOf([]impl.Mark{list[0], list[3]}, [2]int64{1, 6})
	g := impl.NewTower()
	for i, c := range []struct {
		dice  int64
		first impl.Web
	}{{388, one}, {143965, one}, {410873, one}, {433444, both}, {807261, both}} {
		g = raises(t, g, list[i])
		zero[i].Marks = list[:i+1]
		want := impl.Tower{Dice: c.dice, Webs: []impl.Web{zero[i], c.first, {}, {}}}
		if !sameTower(g, want) {
			t.Fatalf("after %d marks %v, not %v", i+1, g, want)
		}
	}
}

// Into one web, two, three and all four; the next one into fewer or more.
func TestRaisedByLevel(t *testing.T) {
	first, second := impl.Mark{Id: 3, At: []int64{1, 2}}, impl.Mark{Id: 4, At: []int64{5, 5}}
	for _, c := range []struct {
		rolled int64
		webs   int
	}{{17, 1}, {0, 1}, {2, 1}, {388, 2}, {4, 2}, {16, 3}, {48, 3}, {64, 4}, {256, 4}, {65536, 4}, {1000000, 4}, {1000002, 1}} {
		g, ok := impl.Raised(emptyTower(diceAhead(c.rolled)), first)
		if !ok || g.Dice != c.rolled || peakOf(g) != c.webs-1 {
			t.Errorf("of dice %d: %v, %t, not in %d webs", c.rolled, g, ok, c.webs)
		}
		for n, w := range g.Webs {
			if n < c.webs && !sameWeb(w, webOf([]impl.Mark{first})) || n >= c.webs && !isZeroWeb(w) {
				t.Errorf("of dice %d: Web %d is %v", c.rolled, n, w)
			}
		}
		for _, dice := range startDice() {
			g.Dice = dice
			raises(t, g, second)
		}
	}
}

// Promise 15: towers grown alike are the same in every field, whatever else
// was asked in between.
func TestSameDiceSameTower(t *testing.T) {
	next := walkOf(161)
	for n := 1; n <= 4; n++ {
		for _, wide := range []int64{0, 3, 1000} {
			list := someMarks(next, impl.MaxMarks, n, wide)
			one, other := impl.NewTower(), impl.NewTower()
			for i, m := range list {
				one = raises(t, one, m)
				if i%7 == 3 {
					impl.Raised(one, lastMark(one.Webs[0], m.At...))
					impl.Asked(one, m.At, 3)
				}
			}
			for _, m := range list {
				other, _ = impl.Raised(other, copyMark(m))
			}
			if !sameTower(one, other) || !sameTower(one, towerGrown(1, list)) {
				t.Fatalf("of %v once %v, once %v", list, one, other)
			}
		}
	}
}

// Promise 15: a mark is in just the webs from 0 up to Level of the dice that
// were rolled for it.
func TestRaisedIntoJustThese(t *testing.T) {
	next, reached := walkOf(162), [towerWebs]int{}
	for n := 1; n <= 4; n++ {
		for _, dice := range append(startDice(), 5, 777, 31337, 500000, 999999) {
			list := someMarks(next, impl.MaxMarks, n, 50)
			g, rolled, levels := emptyTower(dice), dice, []int64{}
			for _, m := range list {
				rolled = rolledIn(rolled)
				levels = append(levels, levelIn(rolled))
				g, _ = impl.Raised(g, m)
			}
			if g.Dice != rolled {
				t.Fatalf("of %d and %v the dice are %d, not %d", dice, list, g.Dice, rolled)
			}
			for i, m := range list {
				for web := range int64(towerWebs) {
					in := slices.ContainsFunc(g.Webs[web].Marks, func(o impl.Mark) bool { return sameMark(o, m) })
					if in != (web <= levels[i]) {
						t.Fatalf("of %d and %v: that %d is in Web %d is %t", dice, list, m.Id, web, in)
					}
				}
				reached[levels[i]]++
			}
		}
	}
	if slices.Min(reached[:]) < 30 {
		t.Errorf("%v marks came up to Web 0 to 3", reached)
	}
}

// Also of towers that were not grown, and with any dice.
func TestRaisedIntoAnyTower(t *testing.T) {
	next, full, raised := walkOf(163), 0, 0
	for _, tower := range manyTowers() {
		isTower(t, tower)
		marks := tower.Webs[0].Marks
		for _, at := range places(next, marks, long(marks)) {
			tower.Dice = []int64{next(diceCount), diceAhead(64 * next(15000)), diceAhead(4 * next(250000))}[next(3)]
			m := lastMark(tower.Webs[0], at...)
			if len(marks) == impl.MaxMarks {
				notRaised(t, tower, m)
				full++
				continue
			}
			raises(t, tower, m)
			raised++
		}
	}
	if full < 20 || raised < 5000 {
		t.Errorf("%d were full, %d raised", full, raised)
	}
}

// deepTower has no links in Web 0, so that it tells where one comes down.
func deepTower() impl.Tower {
	list := axisMarks(1, 0, 0, 10, 20, 30, 40, 50, 60, 70)
	return impl.Tower{Dice: 5, Webs: []impl.Web{
		webOf(list),
		webOf([]impl.Mark{list[1], list[2], list[5], list[6], list[7]}, [2]int64{2, 3}, [2]int64{6, 7}, [2]int64{7, 8}),
		webOf([]impl.Mark{list[2], list[5]}, [2]int64{3, 6}),
		webOf(list[2:3]),
	}}
}

func TestAskedComesDown(t *testing.T) {
	three := deepTower()
	two, one, zero, parted := deepTower(), deepTower(), deepTower(), deepTower()
	two.Webs[3] = impl.Web{}
	one.Webs[2], one.Webs[3] = impl.Web{}, impl.Web{}
	zero.Webs = append(zero.Webs[:1], impl.Web{}, impl.Web{}, impl.Web{})
	parted.Webs[2], parted.Webs[3] = webOf(three.Webs[2].Marks), webOf(three.Webs[2].Marks)
	for _, c := range []struct {
		tower   impl.Tower
		q, want int64
	}{
		{three, 70, 8}, {three, 62, 7}, {three, 50, 6}, {three, 36, 6}, {three, 34, 3}, {three, 20, 3}, {three, 14, 2}, {three, 0, 2}, {three, -90, 2}, {three, 990, 8},
		{two, 70, 8}, {two, 36, 6}, {two, 34, 3}, {two, 0, 2},
		{one, 70, 3}, {one, 20, 3}, {one, 14, 2}, {one, 0, 2},
		{zero, 70, 1}, {zero, 0, 1}, {zero, -90, 1},
		{parted, 70, 3}, {parted, 20, 3}, {parted, 0, 2},
		// Where two are as far the less Id is ahead: one stays at 3 and at 7,
		// and goes on from 3 to 2.
		{three, 35, 3}, {three, 15, 2}, {three, 65, 7}, {two, 35, 3},
	} {
		isTower(t, c.tower)
		off := c.q - (c.want-1)*10
		for _, k := range askedCounts {
			asks(t, c.tower, []int64{c.q}, k, []impl.Hit{{Id: c.want, Far: off * off}})
		}
	}
}

// A Beam is never looked for with less than 4, and with k where it is more.
func TestAskedLooksForFour(t *testing.T) {
	four, five := emptyTower(1), emptyTower(1)
	four.Webs[0] = lineWeb([]int64{20, 21, 22, 90, 0}, [2]int64{1, 2}, [2]int64{1, 3}, [2]int64{1, 4}, [2]int64{4, 5})
	five.Webs[0] = lineWeb([]int64{20, 21, 22, 23, 90, 0}, [2]int64{1, 2}, [2]int64{1, 3}, [2]int64{1, 4}, [2]int64{1, 5}, [2]int64{5, 6})
	behind := []impl.Hit{{Id: 5}, {Id: 1, Far: 400}, {Id: 2, Far: 441}, {Id: 3, Far: 484}, {Id: 4, Far: 8100}}
	near := []impl.Hit{{Id: 1, Far: 400}, {Id: 2, Far: 441}, {Id: 3, Far: 484}, {Id: 4, Far: 529}}
	all := append([]impl.Hit{{Id: 6}}, append(slices.Clone(near), impl.Hit{Id: 5, Far: 8100})...)
	for k := int64(1); k <= impl.MaxMarks; k++ {
		asks(t, four, []int64{0}, k, upTo(behind, int(k)))
		if k <= 4 {
			asks(t, five, []int64{0}, k, near[:k])
		} else {
			asks(t, five, []int64{0}, k, upTo(all, int(k)))
		}
	}
}

func TestAskedOfOneMark(t *testing.T) {
	for _, dice := range startDice() {
		for n := 1; n <= 4; n++ {
			m := impl.Mark{Id: 77, At: make([]int64, n)}
			g := raises(t, emptyTower(dice), m)
			for k := int64(1); k <= impl.MaxMarks; k++ {
				asks(t, g, m.At, k, []impl.Hit{{Id: 77}})
				asks(t, g, slices.Repeat([]int64{-1000}, n), k, []impl.Hit{{Id: 77, Far: 1000000 * int64(n)}})
			}
		}
	}
}

// Of marks as far the less Id is ahead.
func TestAskedOfAlike(t *testing.T) {
	for _, dice := range startDice() {
		g := emptyTower(dice)
		for _, m := range axisMarks(1, 0, 3, -3, 3, -3, 1) {
			g = raises(t, g, m)
		}
		want := []impl.Hit{{Id: 5, Far: 1}, {Id: 1, Far: 9}, {Id: 2, Far: 9}, {Id: 3, Far: 9}, {Id: 4, Far: 9}}
		for k := int64(1); k <= impl.MaxMarks; k++ {
			asks(t, g, []int64{0}, k, upTo(want, int(k)))
		}
		asks(t, g, []int64{3}, 3, []impl.Hit{{Id: 1}, {Id: 3}, {Id: 5, Far: 4}})
		two := raises(t, raises(t, emptyTower(dice), impl.Mark{Id: 8, At: []int64{4, 0}}), impl.Mark{Id: 9, At: []int64{0, 4}})
		asks(t, two, []int64{0, 0}, 1, []impl.Hit{{Id: 8, Far: 16}})
		asks(t, two, []int64{2, 2}, 2, []impl.Hit{{Id: 8, Far: 8}, {Id: 9, Far: 8}})
		asks(t, two, []int64{1, 2}, 1, []impl.Hit{{Id: 9, Far: 5}})
	}
}

// Promise 15: what is Asked are marks of Web 0 with their true distances, in
// order, no more than k of them.
func TestAskedTellsTheTruth(t *testing.T) {
	several, peaks := 0, [towerWebs + 1]int{}
	eachTower(164, func(tower impl.Tower, q []int64) {
		all := allHits(tower.Webs[0].Marks, q)
		peaks[1+peakOf(tower)]++
		for _, k := range append(askedCounts, counts(len(all))...) {
			g := impl.Asked(tower, q, k)
			if int64(len(g)) > k || len(g) == 0 && len(all) > 0 || !impl.HitsOk(g) {
				t.Fatalf("Asked(%v, %v, %d) = %v", tower, q, k, g)
			}
			for i, h := range g {
				if !slices.Contains(all, h) || i > 0 && byOrder(g[i-1], h) >= 0 {
					t.Fatalf("Asked(%v, %v, %d) = %v: %v", tower, q, k, g, h)
				}
			}
			if len(g) > 1 {
				several++
			}
		}
	})
	if several < 10000 || slices.Min(peaks[:]) < 100 {
		t.Errorf("%d tell of several, %v have none, or Web 0 to 3 as the highest", several, peaks)
	}
}

func TestAskedByItsWords(t *testing.T) {
	some, asked := 0, 0
	eachTower(165, func(tower impl.Tower, q []int64) {
		for _, k := range askedCounts {
			want := askedIn(tower, q, k)
			asks(t, tower, q, k, want)
			asked++
			if !slices.Equal(want, upTo(allHits(tower.Webs[0].Marks, q), int(k))) {
				some++
			}
		}
	})
	if some < 200 || asked-some < 10000 {
		t.Errorf("%d of %d tell of others than the nearest", some, asked)
	}
}

// A grown tower is one island, so that with k of all marks all are told.
func TestAskedOfAll(t *testing.T) {
	next := walkOf(166)
	for n := 1; n <= 4; n++ {
		for _, dice := range startDice() {
			list := someMarks(next, 1+int(next(impl.MaxMarks)), n, 40)
			g := towerGrown(dice, list)
			for _, q := range places(next, list, n) {
				asks(t, g, q, max(4, int64(len(list))), allHits(list, q))
				asks(t, g, q, impl.MaxMarks, allHits(list, q))
			}
		}
	}
}

func TestAskedOfNoMarks(t *testing.T) {
	for _, empty := range []impl.Tower{impl.NewTower(), emptyTower(0), emptyTower(diceCount - 1), {Dice: 64, Webs: []impl.Web{{Marks: []impl.Mark{}, Links: [][]int64{}}, {}, {}, {}}}} {
		isTower(t, empty)
		for _, q := range append(noPoints(), []int64{0}, []int64{1, 2}, []int64{1, 2, 3}, []int64{1, 2, 3, 4}) {
			for _, k := range append(askedCounts, noCounts...) {
				asks(t, empty, q, k, nil)
			}
		}
	}
}

// A mark that Web 0 would take but for its room, whichever webs have some.
func TestRaisedIntoFull(t *testing.T) {
	next := walkOf(167)
	for n := 1; n <= 4; n++ {
		list := someMarks(next, impl.MaxMarks, n, 40)
		list[impl.MaxMarks-1].Id = impl.MaxId - 1
		for _, dice := range startDice() {
			last := impl.Mark{Id: impl.MaxId, At: make([]int64, n)}
			roomy := towerGrown(next(diceCount), list[:impl.MaxMarks-1])
			roomy.Dice = dice
			raises(t, roomy, last)
			full := towerGrown(next(diceCount), list)
			full.Dice = dice
			isTower(t, full)
			notRaised(t, full, last)
			for peak := range towerWebs {
				built := towerBuilt(next, list, peak)
				built.Dice = dice
				notRaised(t, built, last)
			}
			// As full as it may be: all marks in all webs.
			for web := range full.Webs {
				full.Webs[web] = copyWeb(full.Webs[0])
			}
			isTower(t, full)
			notRaised(t, full, last)
		}
	}
}

func TestRaisedWrongMark(t *testing.T) {
	next := walkOf(168)
	for n := 1; n <= 4; n++ {
		for _, count := range []int{1, 2, 11, impl.MaxMarks - 1} {
			for _, dice := range startDice() {
				tower := towerGrown(next(diceCount), someMarks(next, count, n, 9))
				tower.Dice = dice
				at, ids := make([]int64, n), idsOfMarks(tower.Webs[0].Marks)
				last := ids[count-1]
				for _, id := range append(ids, last-1, 0, -1, -last, impl.MaxId+1, impl.MaxId+2, 1<<32+last, least, least+1, greatest) {
					notRaised(t, tower, impl.Mark{Id: id, At: at})
				}
				for _, place := range noPlaces(n) {
					notRaised(t, tower, lastMark(tower.Webs[0], place...))
				}
				raises(t, tower, lastMark(tower.Webs[0], at...))
			}
		}
	}
}

// The upper webs would take these, Web 0 does not.
func TestRaisedBehindUpperOnly(t *testing.T) {
	tower := emptyTower(diceAhead(64))
	tower.Webs[0] = lineWeb([]int64{5, 6, 7})
	tower.Webs[1] = webOf(tower.Webs[0].Marks[:1])
	for _, id := range []int64{1, 2, 3} {
		notRaised(t, tower, impl.Mark{Id: id, At: []int64{9}})
	}
	notRaised(t, tower, impl.Mark{Id: 4, At: []int64{9, 9}})
	raises(t, tower, impl.Mark{Id: 4, At: []int64{9}})
}

func TestRaisedWrongIntoEmpty(t *testing.T) {
	for _, dice := range startDice() {
		tower := emptyTower(dice)
		for _, id := range []int64{0, -1, impl.MaxId + 1, 1 << 32, 1<<32 + 1, least, greatest} {
			notRaised(t, tower, impl.Mark{Id: id, At: []int64{1, 2}})
		}
		for _, p := range noPoints() {
			notRaised(t, tower, impl.Mark{Id: 1, At: p})
		}
		notRaised(t, tower, impl.Mark{})
		for n := 1; n <= 4; n++ {
			for _, id := range []int64{1, 2, impl.MaxId} {
				raises(t, tower, impl.Mark{Id: id, At: make([]int64, n)})
			}
		}
	}
}

func TestAskedWrong(t *testing.T) {
	next := walkOf(169)
	for n := 1; n <= 4; n++ {
		for _, count := range []int{1, 2, 11, impl.MaxMarks} {
			for _, dice := range startDice() {
				tower := towerGrown(dice, someMarks(next, count, n, 9))
				for _, q := range noPlaces(n) {
					for _, k := range []int64{1, 4, impl.MaxMarks} {
						asks(t, tower, q, k, nil)
					}
				}
				for _, k := range noCounts {
					asks(t, tower, make([]int64, n), k, nil)
				}
			}
		}
	}
}

func TestTowerWrongDice(t *testing.T) {
	for i, tower := range manyTowers() {
		for _, dice := range noDice {
			tower.Dice = dice
			if i%9 == 0 {
				notTower(t, tower)
			} else if impl.TowerOk(tower) {
				t.Fatalf("TowerOk(%v) is true", tower)
			}
		}
		for _, dice := range []int64{0, 1, diceCount - 1} {
			tower.Dice = dice
			isTower(t, tower)
		}
	}
}

func TestTowerOtherCountOfWebs(t *testing.T) {
	notTower(t, impl.Tower{})
	notTower(t, impl.Tower{Dice: 1})
	for _, many := range []int{0, 1, 2, 3, 5, 6, 8, 1000} {
		notTower(t, impl.Tower{Dice: 1, Webs: make([]impl.Web, many)})
	}
	for i, tower := range manyTowers() {
		if i%5 > 0 {
			continue
		}
		for many := range towerWebs {
			notTower(t, impl.Tower{Dice: tower.Dice, Webs: tower.Webs[:many]})
		}
		notTower(t, impl.Tower{Dice: tower.Dice, Webs: append(copyTower(tower).Webs, impl.Web{})})
		notTower(t, impl.Tower{Dice: tower.Dice, Webs: append(copyTower(tower).Webs, copyWeb(tower.Webs[3]))})
		notTower(t, impl.Tower{Dice: tower.Dice, Webs: slices.Repeat(tower.Webs, 2)})
	}
}

// withWeb has the tower with another web at one place.
func withWeb(tower impl.Tower, n int, w impl.Web) impl.Tower {
	other := copyTower(tower)
	other.Webs[n] = copyWeb(w)
	return other
}

// Each of them is wrong by one web alone.
func TestTowerWrongWeb(t *testing.T) {
	next, wrong := walkOf(170), 0
	for n := 1; n <= 4; n++ {
		for _, count := range []int{1, 2, 4} {
			tower := towerBuilt(next, someMarks(next, count, n, 9), 3)
			for at, w := range tower.Webs {
				others := append(wrongLinks(w), impl.Web{Marks: w.Marks}, impl.Web{Links: w.Links}, impl.Web{Marks: w.Marks, Links: append(copyLists(w.Links), nil)})
				for _, other := range others {
					notTower(t, withWeb(tower, at, other))
					wrong++
				}
			}
		}
	}
	for at := range towerWebs {
		for _, list := range noMarks() {
			notTower(t, withWeb(impl.NewTower(), at, impl.Web{Marks: list, Links: make([][]int64, len(list))}))
		}
		notTower(t, withWeb(impl.NewTower(), at, impl.Web{Links: [][]int64{{}}}))
	}
	// Marks that are not right, though they are those of the web below.
	for _, list := range noMarks() {
		all := emptyTower(1)
		for at := range all.Webs {
			all.Webs[at] = webOf(list)
		}
		notTower(t, all)
	}
	if wrong < 500 {
		t.Errorf("%d wrong ones", wrong)
	}
}

// upperMarks is the tower with these as the marks of one web, without links
// there and above it.
func upperMarks(tower impl.Tower, n int, list []impl.Mark) impl.Tower {
	other := copyTower(tower)
	for above := n; above < towerWebs; above++ {
		other.Webs[above] = webOf(list)
	}
	return other
}

// In each web above 0: a mark under another Id, at another place, with more
// numbers, and of none below.
func TestTowerMarksNotBelow(t *testing.T) {
	next := walkOf(171)
	for n := 1; n <= 4; n++ {
		for _, count := range []int{1, 2, 7} {
			list := someMarks(next, count, n, 9)
			all := upperMarks(emptyTower(next(diceCount)), 0, list)
			isTower(t, all)
			for web := 1; web < towerWebs; web++ {
				for i, m := range list {
					ids := idsOfMarks(list)
					for _, id := range []int64{m.Id - 1, m.Id + 1, impl.MaxId} {
						other := webOf(list).Marks
						other[i].Id = id
						if !slices.Contains(ids, id) && impl.MarksOk(other) {
							notTower(t, upperMarks(all, web, other))
						}
					}
					for axis := range n {
						for _, by := range []int64{1, -1, 100} {
							other := webOf(list).Marks
							other[i].At[axis] += by
							notTower(t, upperMarks(all, web, other))
						}
					}
					alone := impl.Mark{Id: m.Id, At: append(slices.Clone(m.At), 0)}
					if n < 4 {
						notTower(t, upperMarks(all, web, []impl.Mark{alone}))
					}
					if n > 1 {
						notTower(t, upperMarks(all, web, []impl.Mark{{Id: m.Id, At: m.At[:n-1]}}))
					}
					// Below it there are all but this one, or none.
					fewer := upperMarks(all, web-1, without(list, i))
					isTower(t, fewer)
					notTower(t, withWeb(fewer, web, webOf(list[i:i+1])))
					notTower(t, withWeb(upperMarks(all, web-1, nil), web, webOf(list)))
				}
				notTower(t, upperMarks(all, web, append(webOf(list).Marks, lastMark(webOf(list), make([]int64, n)...))))
			}
		}
	}
}

// Webs in another order, and with marks in one that the web under it has not,
// though a deeper one has them.
func TestTowerWebsMixed(t *testing.T) {
	list := axisMarks(2, 1, 5, 6, 7)
	for _, c := range []struct {
		marks [towerWebs][]impl.Mark
		right bool
	}{
		{[towerWebs][]impl.Mark{list, list, list, list}, true}, {[towerWebs][]impl.Mark{list, list[1:], list[1:], list[2:]}, true},
		{[towerWebs][]impl.Mark{list, list[:2], list[1:2]}, true}, {[towerWebs][]impl.Mark{list}, true}, {[towerWebs][]impl.Mark{list[2:], list[2:]}, true},
		{[towerWebs][]impl.Mark{nil, list}, false}, {[towerWebs][]impl.Mark{nil, nil, list[:1]}, false}, {[towerWebs][]impl.Mark{nil, nil, nil, list[:1]}, false},
		{[towerWebs][]impl.Mark{list, nil, list}, false}, {[towerWebs][]impl.Mark{list, list, nil, list}, false}, {[towerWebs][]impl.Mark{list, list[:2], list[2:]}, false},
		{[towerWebs][]impl.Mark{list, list[:2], list[1:], nil}, false}, {[towerWebs][]impl.Mark{list, list[:2], list[:1], list[:2]}, false},
		{[towerWebs][]impl.Mark{list[:2], list, list, list}, false}, {[towerWebs][]impl.Mark{list, list, list[1:], list}, false},
	} {
		tower := emptyTower(64)
		for n, marks := range c.marks {
			tower.Webs[n] = webOf(marks)
		}
		if c.right {
			isTower(t, tower)
		} else {
			notTower(t, tower)
		}
	}
}

// disturbedTower has the tower with one thing changed, which may leave it right.
func disturbedTower(next func(int64) int64, tower impl.Tower) impl.Tower {
	other := copyTower(tower)
	n := next(towerWebs)
	switch next(5) {
	case 0:
		other.Dice = []int64{-1, 0, diceCount - 1, diceCount}[next(4)]
	case 1:
		other.Webs[n] = impl.Web{}
	case 2:
		other.Webs[n] = copyWeb(tower.Webs[next(towerWebs)])
	case 3:
		if len(other.Webs[n].Marks) > 0 {
			other.Webs[n] = disturbed(next, other.Webs[n])
		}
	default:
		for _, m := range other.Webs[n].Marks {
			m.At[0] += next(2)
		}
	}
	return other
}

// Towers drawn near to what is right: some are, some are not.
func TestTowerOkByItsWords(t *testing.T) {
	next, right, wrong := walkOf(172), 0, 0
	for range 10000 {
		tower := towerGrown(next(diceCount), someMarks(next, int(next(5)), 1+int(next(4)), 9))
		for range 1 + next(3) {
			tower = disturbedTower(next, tower)
		}
		if !towerIn(tower) {
			notTower(t, tower)
			wrong++
			continue
		}
		isTower(t, tower)
		q := make([]int64, long(tower.Webs[0].Marks))
		asks(t, tower, q, 3, askedIn(tower, q, 3))
		raises(t, tower, lastMark(tower.Webs[0], q...))
		right++
	}
	if right < 2000 || wrong < 2000 {
		t.Errorf("%d right, %d wrong", right, wrong)
	}
}

// Several wrong inputs together: a tower that is not right is told first.
func TestTowerWrongTogether(t *testing.T) {
	wrong := deepTower()
	wrong.Dice = diceCount
	for _, q := range [][]int64{nil, {1}, {1001}, {1, 2}} {
		for _, k := range []int64{0, 1, impl.MaxMarks + 1} {
			asks(t, wrong, q, k, nil)
			asks(t, impl.Tower{}, q, k, nil)
		}
		for _, id := range []int64{0, 8, 9, impl.MaxId + 1} {
			for _, tower := range []impl.Tower{wrong, {}} {
				if g, ok := impl.Raised(tower, impl.Mark{Id: id, At: q}); ok || !isZeroTower(g) {
					t.Errorf("Raised(%v, {%d %v}) = %v, %t", tower, id, q, g, ok)
				}
			}
		}
	}
	for _, q := range [][]int64{nil, {1001}, {1, 2}} {
		asks(t, deepTower(), q, 0, nil)
		notRaised(t, deepTower(), impl.Mark{Id: 0, At: q})
	}
}

// numbersIn is all that a web holds.
func numbersIn(w impl.Web) []int64 {
	all := append([]int64{int64(len(w.Marks)), int64(len(w.Links))}, idsOfMarks(w.Marks)...)
	for _, list := range listsIn(w) {
		all = append(append(all, int64(len(list))), list...)
	}
	return all
}

// roomyTower is the tower with spare room behind all of its lists, and a look
// at the whole of that memory, and at what the webs hold, which may have come
// to stand upon another one.
func roomyTower(tower impl.Tower) (impl.Tower, func() []int64) {
	all := append(slices.Clone(tower.Webs), lineWeb([]int64{3, 4}, [2]int64{1, 2}), impl.Web{})
	looks := make([]func() []int64, len(all))
	for n, w := range all {
		all[n], looks[n] = roomyWeb(w)
	}
	return impl.Tower{Dice: tower.Dice, Webs: all[:len(tower.Webs)]}, func() []int64 {
		var whole []int64
		for n, look := range looks {
			whole = append(append(whole, look()...), numbersIn(all[n])...)
		}
		return whole
	}
}

// spoilTower writes over all lists of an answer and the room behind them.
func spoilTower(tower impl.Tower) {
	webs := tower.Webs[:cap(tower.Webs)]
	for n, w := range webs {
		spoilWeb(w)
		webs[n] = lineWeb([]int64{-77})
	}
}

// towerStays asks all functions, writes over what they answer, and looks
// whether an argument, or the room behind it, has changed.
func towerStays(t *testing.T, tower impl.Tower, m impl.Mark, q []int64, k int64) {
	t.Helper()
	own, look := roomyTower(tower)
	at, wholeAt := roomy(m.At)
	ownQ, wholeQ := roomy(q)
	kept, keptAt, keptQ := look(), slices.Clone(wholeAt), slices.Clone(wholeQ)
	impl.TowerOk(own)
	raised, _ := impl.Raised(own, impl.Mark{Id: m.Id, At: at})
	spoilTower(raised)
	spoil(impl.Asked(own, ownQ, k))
	if own.Dice != tower.Dice || !slices.Equal(look(), kept) || !slices.Equal(wholeAt, keptAt) || !slices.Equal(wholeQ, keptQ) {
		t.Fatalf("%v, %v, %v became %v, %v, %v", tower, m, q, own, at, ownQ)
	}
}

func TestTowerArgumentsStay(t *testing.T) {
	next := walkOf(173)
	eachTower(174, func(tower impl.Tower, q []int64) {
		towerStays(t, tower, lastMark(tower.Webs[0], q...), q, 1+next(impl.MaxMarks))
	})
	for i, tower := range manyTowers() {
		q := make([]int64, long(tower.Webs[0].Marks))
		m := lastMark(tower.Webs[0], q...)
		towerStays(t, tower, impl.Mark{Id: m.Id - 1, At: q}, q, 0)
		towerStays(t, tower, lastMark(tower.Webs[0], append(q, 0)...), append(q, 0), 1)
		towerStays(t, tower, impl.Mark{Id: impl.MaxId + 1, At: q}, q, impl.MaxMarks+1)
		if i%5 > 0 {
			continue
		}
		towerStays(t, impl.Tower{Dice: diceCount, Webs: tower.Webs}, m, q, 3)
		towerStays(t, impl.Tower{Dice: tower.Dice, Webs: tower.Webs[:3]}, m, q, 3)
		towerStays(t, impl.Tower{Dice: tower.Dice, Webs: append(copyTower(tower).Webs, impl.Web{})}, m, q, 3)
		towerStays(t, withWeb(tower, 3, impl.Web{Marks: tower.Webs[0].Marks}), m, q, 3)
	}
	for _, list := range noMarks() {
		towerStays(t, withWeb(impl.NewTower(), 0, impl.Web{Marks: list, Links: make([][]int64, len(list))}), impl.Mark{Id: 9, At: []int64{1, 2}}, []int64{1, 2}, 2)
	}
	for _, p := range noPoints() {
		towerStays(t, deepTower(), impl.Mark{Id: 9, At: p}, p, 2)
	}
}

// What is written over arguments or another answer changes no answer, be the
// mark raised or the tower told as it is.
func TestTowerAnswersAreNew(t *testing.T) {
	next, kept := walkOf(175), 0
	eachTower(176, func(tower impl.Tower, q []int64) {
		k := 1 + next(impl.MaxMarks)
		tower.Dice = startDice()[next(7)]
		m, want := lastMark(tower.Webs[0], q...), copyTower(tower)
		if next(2) == 0 || len(tower.Webs[0].Marks) == impl.MaxMarks {
			m.Id--
			kept++
		} else {
			want = raisedIn(tower, m)
		}
		own, _ := roomyTower(tower)
		at, _ := roomy(q)
		m.At = at
		raised, _ := impl.Raised(own, m)
		told := impl.Asked(own, at, k)
		again, _ := impl.Raised(own, m)
		spoilTower(again)
		spoil(impl.Asked(own, at, k))
		spoilTower(own)
		spoilNumbers(at)
		if !sameTower(raised, want) || !slices.Equal(told, askedIn(tower, q, k)) {
			t.Fatalf("of %v, %v, %d they became %v and %v", tower, q, k, raised, told)
		}
	})
	if kept < 1000 {
		t.Errorf("%d were told as they are", kept)
	}
}

// listsOfTower are all lists of numbers that a tower has.
func listsOfTower(tower impl.Tower) [][]int64 {
	lists := [][]int64{}
	for _, w := range tower.Webs {
		lists = append(lists, listsIn(w)...)
	}
	return lists
}

// ownLists writes over one list of an answer after the other, with the room
// behind it, forth and back: all others stay. So do the webs of it.
func ownLists(t *testing.T, tower impl.Tower, m impl.Mark, want impl.Tower) {
	t.Helper()
	answers := [4]impl.Tower{}
	for i := range answers {
		answers[i], _ = impl.Raised(tower, m)
	}
	lists, forth, back := listsOfTower(want), listsOfTower(answers[0]), listsOfTower(answers[1])
	for i := range lists {
		last := len(lists) - 1 - i
		if !sameCells(forth[i:], lists[i:]) || !sameCells(back[:last+1], lists[:last+1]) {
			t.Fatalf("Raised(%v, %v): %v or %v, not %v", tower, m, forth[i:], back[:last+1], lists)
		}
		spoilNumbers(forth[i])
		spoilNumbers(back[last])
	}
	for n := range want.Webs {
		last := towerWebs - 1 - n
		if !slices.EqualFunc(answers[2].Webs[n:], want.Webs[n:], sameWeb) || !slices.EqualFunc(answers[3].Webs[:last+1], want.Webs[:last+1], sameWeb) {
			t.Fatalf("Raised(%v, %v): %v or %v, not %v", tower, m, answers[2], answers[3], want)
		}
		spoilWeb(answers[2].Webs[n])
		spoilWeb(answers[3].Webs[last])
	}
}

func TestTowerListsAreApart(t *testing.T) {
	next := walkOf(177)
	for _, tower := range manyTowers() {
		tower.Dice = startDice()[next(7)]
		m := lastMark(tower.Webs[0], make([]int64, long(tower.Webs[0].Marks))...)
		if len(tower.Webs[0].Marks) < impl.MaxMarks {
			ownLists(t, tower, m, raisedIn(tower, m))
		}
		ownLists(t, tower, impl.Mark{Id: m.Id - 1, At: m.At}, tower)
	}
	// All webs are one memory, and so are all places and lists of links.
	for n := 1; n <= 4; n++ {
		one, links := slices.Repeat([]int64{5}, n), []int64{3, 4}
		w := impl.Web{Marks: []impl.Mark{{Id: 1, At: one}, {Id: 2, At: one}, {Id: 3, At: one}, {Id: 4, At: one}}, Links: [][]int64{links, links, {1, 2}, {1, 2}}}
		for _, dice := range startDice() {
			tower := impl.Tower{Dice: dice, Webs: []impl.Web{w, w, w, w}}
			kept, m := copyTower(tower), impl.Mark{Id: 5, At: one}
			ownLists(t, tower, m, raisedIn(kept, m))
			ownLists(t, tower, impl.Mark{Id: 4, At: one}, kept)
			ownLists(t, tower, impl.Mark{Id: 5, At: append(slices.Clone(one), 0)[:n+1]}, kept)
			if !sameTower(tower, kept) {
				t.Fatalf("%v became %v", kept, tower)
			}
		}
	}
}

// The place asked for, the mark's At and those of the tower may be one memory.
func TestTowerOfOneMemory(t *testing.T) {
	tower := deepTower()
	own, look := roomyTower(tower)
	kept := look()
	for i, m := range own.Webs[0].Marks {
		asks(t, own, m.At, 3, askedIn(tower, tower.Webs[0].Marks[i].At, 3))
		spoil(impl.Asked(own, m.At, impl.MaxMarks))
		for _, dice := range startDice() {
			own.Dice = dice
			spoilTower(raises(t, own, impl.Mark{Id: 9, At: m.At}))
			raised, _ := impl.Raised(own, m)
			spoilTower(raised)
		}
	}
	if !slices.Equal(look(), kept) {
		t.Errorf("%v became %v", tower, own)
	}
}

// Many calls at once do not meet: nothing is kept between them.
func TestTowersAtOnce(t *testing.T) {
	next := walkOf(178)
	list := someMarks(next, 30, 2, 40)
	grown := make(chan impl.Tower)
	for range 8 {
		go func() {
			tower := impl.NewTower()
			for _, m := range list {
				tower, _ = impl.Raised(tower, m)
			}
			grown <- tower
		}()
	}
	for range 8 {
		if g := <-grown; !sameTower(g, towerGrown(1, list)) {
			t.Errorf("one became %v", g)
		}
	}
}
