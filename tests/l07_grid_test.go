package tests

import (
	"math"
	"slices"
	"testing"

	"loop.example/g00273/impl"
)

// sides are right ones, both ends among them.
var sides = []int64{1, 2, 3, 4, 5, 7, 10, 40, 99, 333, 500, 501, 999, impl.MaxAt}

// noSides are numbers that chapter 7 refuses as a Side.
var noSides = []int64{0, -1, -2, -4, -impl.MaxAt, impl.MaxAt + 1, impl.MaxAt + 2, 2000, 1 << 32, 1<<32 + 1, -1 << 32, least, least + 1, greatest, greatest - 1}

func gridOf(side int64, list []impl.Mark) impl.Grid { return impl.Grid{Side: side, Marks: list} }

// cellAt is the cell of a point by the document's words.
func cellAt(p []int64, side int64) []int64 {
	cell := []int64{}
	for _, x := range p {
		cell = append(cell, int64(math.Floor(float64(x)/float64(side))))
	}
	return cell
}

// inCellOf are the Ids in a cell by looking at all marks.
func inCellOf(g impl.Grid, cell []int64) []int64 {
	ids := []int64{}
	for _, m := range g.Marks {
		if slices.Equal(cellAt(m.At, g.Side), cell) {
			ids = append(ids, m.Id)
		}
	}
	return ids
}

// cellsIn are all cells with any by looking at all marks.
func cellsIn(g impl.Grid) [][]int64 {
	cells := [][]int64{}
	for _, m := range g.Marks {
		if cell := cellAt(m.At, g.Side); !hasCell(cells, cell) {
			cells = append(cells, cell)
		}
	}
	return cells
}

func hasCell(cells [][]int64, cell []int64) bool {
	return slices.ContainsFunc(cells, func(c []int64) bool { return slices.Equal(c, cell) })
}

func sameCells(a, b [][]int64) bool { return slices.EqualFunc(a, b, slices.Equal[[]int64]) }

// nearOf are the hits up to most by looking at all marks.
func nearOf(list []impl.Mark, q []int64, most int64) []impl.Hit {
	return slices.DeleteFunc(allHits(list, q), func(h impl.Hit) bool { return h.Far > most })
}

// manyGrids has grids of 1 to 4 numbers: of none, of one, of many; several in
// one cell and each in its own.
func manyGrids() []impl.Grid {
	grids := []impl.Grid{}
	for i, list := range eachMarks() {
		for j := range 3 {
			grids = append(grids, gridOf(sides[(i+5*j)%len(sides)], list))
		}
	}
	return grids
}

func TestCellOrdinary(t *testing.T) {
	for _, c := range []struct {
		p    []int64
		side int64
		want []int64
	}{
		// It is rounded down, also below 0.
		{[]int64{0}, 4, []int64{0}}, {[]int64{3}, 4, []int64{0}}, {[]int64{4}, 4, []int64{1}}, {[]int64{5}, 4, []int64{1}},
		{[]int64{-1}, 4, []int64{-1}}, {[]int64{-3}, 4, []int64{-1}}, {[]int64{-4}, 4, []int64{-1}}, {[]int64{-5}, 4, []int64{-2}},
		{[]int64{-8}, 4, []int64{-2}}, {[]int64{-9}, 4, []int64{-3}}, {[]int64{7}, 4, []int64{1}}, {[]int64{8}, 4, []int64{2}},
		// The least Side leaves each number, the greatest parts them in three.
		{[]int64{-1000, -1, 0, 1000}, 1, []int64{-1000, -1, 0, 1000}},
		{[]int64{-1000, -999, -1, 0}, impl.MaxAt, []int64{-1, -1, -1, 0}}, {[]int64{1, 999, 1000}, impl.MaxAt, []int64{0, 0, 1}},
		{[]int64{-1000, -999, 998, 999}, 999, []int64{-2, -1, 0, 1}}, {[]int64{1000, -1000}, 2, []int64{500, -500}},
		{[]int64{1000, -1000, 0, 500}, 7, []int64{142, -143, 0, 71}}, {[]int64{-1, 8}, 4, []int64{-1, 2}}, {[]int64{12, -13, 14}, 3, []int64{4, -5, 4}},
	} {
		if g := impl.Cell(c.p, c.side); !slices.Equal(g, c.want) {
			t.Errorf("Cell(%v, %d) = %v, not %v", c.p, c.side, g, c.want)
		}
	}
}

// Each number, and each side, by what rounding down is.
func TestCellEach(t *testing.T) {
	down := func(x, side int64) {
		p := []int64{x, -x, 0, x}
		g := impl.Cell(p, side)
		if len(g) != 4 {
			t.Fatalf("Cell(%v, %d) = %v", p, side, g)
		}
		for i, c := range g {
			if c*side > p[i] || (c+1)*side <= p[i] {
				t.Fatalf("Cell(%v, %d) = %v", p, side, g)
			}
		}
	}
	for x := int64(-1000); x <= 1000; x++ {
		for _, side := range sides {
			down(x, side)
		}
	}
	for side := int64(1); side <= impl.MaxAt; side++ {
		for _, x := range []int64{0, 1, side - 1, side, side + 1, 500, 999, 1000} {
			if x <= 1000 {
				down(x, side)
			}
		}
	}
}

func TestCellByItsWords(t *testing.T) {
	for n := 1; n <= 4; n++ {
		for _, p := range somePoints(n) {
			for _, side := range sides {
				if g, want := impl.Cell(p, side), cellAt(p, side); !slices.Equal(g, want) {
					t.Fatalf("Cell(%v, %d) = %v, not %v", p, side, g, want)
				}
			}
		}
	}
}

// eightMarks has four in one cell of Side 4, two of them in one place, and
// cells above and below 0.
func eightMarks() []impl.Mark {
	return []impl.Mark{{Id: 1, At: []int64{0, 0}}, {Id: 2, At: []int64{3, 4}}, {Id: 3, At: []int64{1, 0}}, {Id: 5, At: []int64{9, 9}},
		{Id: 6, At: []int64{-1, 0}}, {Id: 8, At: []int64{3, 3}}, {Id: 9, At: []int64{0, 5}}, {Id: 10, At: []int64{1, 0}}}
}

func TestInCellOrdinary(t *testing.T) {
	for _, c := range []struct {
		side int64
		cell []int64
		want []int64
	}{
		{4, []int64{0, 0}, []int64{1, 3, 8, 10}}, {4, []int64{0, 1}, []int64{2, 9}}, {4, []int64{2, 2}, []int64{5}}, {4, []int64{-1, 0}, []int64{6}},
		// No mark is in these.
		{4, []int64{1, 0}, nil}, {4, []int64{0, -1}, nil}, {4, []int64{-1, -1}, nil}, {4, []int64{9, 9}, nil}, {4, []int64{2, 0}, nil}, {4, []int64{0, 2}, nil},
		{1, []int64{1, 0}, []int64{3, 10}}, {1, []int64{0, 0}, []int64{1}}, {1, []int64{9, 9}, []int64{5}}, {1, []int64{2, 2}, nil},
		{1000, []int64{0, 0}, []int64{1, 2, 3, 5, 8, 9, 10}}, {1000, []int64{-1, 0}, []int64{6}}, {1000, []int64{0, 1}, nil},
		{5, []int64{0, 0}, []int64{1, 2, 3, 8, 10}}, {5, []int64{0, 1}, []int64{9}}, {5, []int64{1, 1}, []int64{5}},
	} {
		if g := impl.InCell(gridOf(c.side, eightMarks()), c.cell); !slices.Equal(g, c.want) {
			t.Errorf("by %d InCell %v = %v, not %v", c.side, c.cell, g, c.want)
		}
	}
}

func TestCellsOrdinary(t *testing.T) {
	for _, c := range []struct {
		side  int64
		list  []impl.Mark
		want  [][]int64
		crowd int64
	}{
		{4, eightMarks(), [][]int64{{0, 0}, {0, 1}, {2, 2}, {-1, 0}}, 4},
		{5, eightMarks(), [][]int64{{0, 0}, {1, 1}, {-1, 0}, {0, 1}}, 5},
		{1, eightMarks(), [][]int64{{0, 0}, {3, 4}, {1, 0}, {9, 9}, {-1, 0}, {3, 3}, {0, 5}}, 2},
		{1000, eightMarks(), [][]int64{{0, 0}, {-1, 0}}, 7},
		{4, nil, nil, 0}, {1, []impl.Mark{}, nil, 0}, {1000, make([]impl.Mark, 0, 3), nil, 0},
		{3, []impl.Mark{{Id: impl.MaxId, At: []int64{-7, 7, 1000, -1000}}}, [][]int64{{-3, 2, 333, -334}}, 1},
		// The most are in a cell that is neither the first nor the last.
		{10, []impl.Mark{{Id: 4, At: []int64{-5}}, {Id: 5, At: []int64{10}}, {Id: 6, At: []int64{19}}, {Id: 7, At: []int64{15}}, {Id: 8, At: []int64{-1}}, {Id: 9, At: []int64{0}}}, [][]int64{{-1}, {1}, {0}}, 3},
		// All in one cell, and each in its own.
		{7, marksOf(risingIds(1, impl.MaxMarks), -8, 3, 6), [][]int64{{-2, 0, 0}}, impl.MaxMarks},
		{1, []impl.Mark{{Id: 1, At: []int64{2}}, {Id: 2, At: []int64{1}}, {Id: 3, At: []int64{-1}}, {Id: 4, At: []int64{-2}}, {Id: 5, At: []int64{0}}}, [][]int64{{2}, {1}, {-1}, {-2}, {0}}, 1},
	} {
		g := gridOf(c.side, c.list)
		if cells := impl.Cells(g); !sameCells(cells, c.want) {
			t.Errorf("Cells(%v) = %v, not %v", g, cells, c.want)
		}
		if crowd := impl.Crowd(g); crowd != c.crowd {
			t.Errorf("Crowd(%v) = %d, not %d", g, crowd, c.crowd)
		}
	}
}

// The grids are what their words say.
func TestManyGrids(t *testing.T) {
	var none, one, full, crowded, lonely int
	for _, g := range manyGrids() {
		cells := len(cellsIn(g))
		switch many := len(g.Marks); {
		case many == 0:
			none++
		case many == 1:
			one++
		case cells == many:
			lonely++
		case cells < many/2:
			crowded++
		}
		if len(g.Marks) == impl.MaxMarks {
			full++
		}
	}
	if min(none, one, full, crowded, lonely) < 20 {
		t.Errorf("%d of none, %d of one, %d full, %d crowded, %d lonely", none, one, full, crowded, lonely)
	}
}

func TestGridByItsWords(t *testing.T) {
	for _, g := range manyGrids() {
		want := cellsIn(g)
		if cells := impl.Cells(g); !sameCells(cells, want) {
			t.Fatalf("Cells(%v) = %v, not %v", g, cells, want)
		}
		most := 0
		for _, cell := range want {
			ids := inCellOf(g, cell)
			most = max(most, len(ids))
			if got := impl.InCell(g, cell); !slices.Equal(got, ids) {
				t.Fatalf("InCell(%v, %v) = %v, not %v", g, cell, got, ids)
			}
			for i := range cell {
				for _, x := range []int64{cell[i] - 1, cell[i] + 1, -cell[i], 0} {
					other := with(cell, i, x)
					if got, ids := impl.InCell(g, other), inCellOf(g, other); !slices.Equal(got, ids) {
						t.Fatalf("InCell(%v, %v) = %v, not %v", g, other, got, ids)
					}
				}
			}
		}
		if crowd := impl.Crowd(g); crowd != int64(most) {
			t.Fatalf("Crowd(%v) = %d, not %d", g, crowd, most)
		}
	}
}

// Promise 7: each mark is in the one cell of its place, and in no other.
func TestEachMarkIsInOneCell(t *testing.T) {
	for _, g := range manyGrids() {
		cells := impl.Cells(g)
		in := map[int64][]int64{}
		together := 0
		for i, cell := range cells {
			if hasCell(cells[:i], cell) {
				t.Fatalf("Cells(%v) = %v has %v twice", g, cells, cell)
			}
			ids := impl.InCell(g, cell)
			together += len(ids)
			for j, id := range ids {
				if j > 0 && ids[j-1] >= id {
					t.Fatalf("InCell(%v, %v) = %v does not rise", g, cell, ids)
				}
				if other, ok := in[id]; ok {
					t.Fatalf("%v: %d is in %v and in %v", g, id, other, cell)
				}
				in[id] = cell
			}
		}
		for _, m := range g.Marks {
			own := impl.Cell(m.At, g.Side)
			if !slices.Contains(impl.InCell(g, own), m.Id) || !slices.Equal(in[m.Id], own) {
				t.Fatalf("%v: %d is in %v, not in %v", g, m.Id, in[m.Id], own)
			}
		}
		if together != len(g.Marks) {
			t.Fatalf("%v: %d are in cells", g, together)
		}
	}
}

// nearIsWithin is promise 7 of one grid, by Within and by the document's words.
func nearIsWithin(t *testing.T, g impl.Grid, q []int64, most int64) {
	t.Helper()
	got := impl.Near(g, q, most)
	if want := impl.Within(g.Marks, q, most); !slices.Equal(got, want) {
		t.Fatalf("Near(%v, %v, %d) = %v, Within %v", g, q, most, got, want)
	}
	if want := nearOf(g.Marks, q, most); !slices.Equal(got, want) {
		t.Fatalf("Near(%v, %v, %d) = %v, not %v", g, q, most, got, want)
	}
}

// mostsOf are distances that take in none, some and all of the marks, each
// time just as far as one is and one less and one more.
func mostsOf(g impl.Grid, q []int64) []int64 {
	mosts := []int64{0, 1, g.Side, g.Side*g.Side - 1, g.Side * g.Side, 2 * g.Side * g.Side, greatest}
	if all := allHits(g.Marks, q); len(all) > 0 {
		for _, h := range []impl.Hit{all[0], all[len(all)/3], all[2*len(all)/3], all[len(all)-1]} {
			mosts = append(mosts, max(h.Far-1, 0), h.Far, h.Far+1)
		}
	}
	return mosts
}

// Promise 7: Near is Within.
func TestNearIsWithin(t *testing.T) {
	next := walkOf(7)
	for _, g := range manyGrids() {
		for _, q := range places(next, g.Marks, long(g.Marks)) {
			for _, most := range mostsOf(g, q) {
				nearIsWithin(t, g, q, most)
			}
		}
	}
}

// Promise 7 of wide and of close marks with every kind of side, at points
// beside marks and beyond all of them.
func TestNearIsWithinAbout(t *testing.T) {
	next := walkOf(77)
	for n := 1; n <= 4; n++ {
		for _, wide := range []int64{2, 20, 1000} {
			for _, side := range sides {
				list := someMarks(next, int(1+next(impl.MaxMarks)), n, wide)
				g := gridOf(side, list)
				for _, q := range slices.Concat(about(list[:1+len(list)/9]), outside(list, n)) {
					for _, most := range mostsOf(g, q) {
						nearIsWithin(t, g, q, most)
					}
				}
			}
		}
	}
}

// Promise 7 at every point about few marks, by every distance.
func TestNearIsWithinEach(t *testing.T) {
	next := walkOf(78)
	for n := 1; n <= 2; n++ {
		for side := int64(1); side <= 5; side++ {
			g := gridOf(side, someMarks(next, int(3+next(7)), n, 4))
			for _, q := range allOf(n, -6, -5, -4, -3, -2, -1, 0, 1, 2, 3, 4, 5, 6) {
				for most := int64(0); most <= 105; most++ {
					nearIsWithin(t, g, q, most)
				}
			}
		}
	}
}

// A mark that is on the side of its cell nearest to q, at each end of where
// points are: its cell is about as long as the mark itself is.
func TestNearAtTheSideOfACell(t *testing.T) {
	for n := 1; n <= 4; n++ {
		for _, side := range sides {
			for _, x := range []int64{-1000, -side, 1 - side, -1, 0, 1, side - 1, side, 1000} {
				if x > 1000 {
					continue
				}
				for _, y := range []int64{-1000, -side, -1, 0, side - 1, side, 1000} {
					g := gridOf(side, []impl.Mark{{Id: 3, At: with(make([]int64, n), n-1, x)}, {Id: 4, At: slices.Repeat([]int64{-1000}, n)}, {Id: 5, At: slices.Repeat([]int64{1000}, n)}})
					q := with(make([]int64, n), n-1, y)
					far := (x - y) * (x - y)
					for _, most := range []int64{far, far + 1, max(far-1, 0)} {
						nearIsWithin(t, g, q, most)
					}
				}
			}
		}
	}
}

func TestNearOrdinary(t *testing.T) {
	g := gridOf(4, eightMarks())
	for _, c := range []struct {
		q    []int64
		most int64
		want []impl.Hit
	}{
		// No cell but that of q is as near.
		{[]int64{2, 1}, 0, nil}, {[]int64{1, 0}, 0, []impl.Hit{{Id: 3}, {Id: 10}}}, {[]int64{1, 1}, 2, []impl.Hit{{Id: 3, Far: 1}, {Id: 10, Far: 1}, {Id: 1, Far: 2}}},
		// Some cells about: 6 and 2 are in others, just as far, and no nearer.
		{[]int64{0, 0}, 1, []impl.Hit{{Id: 1}, {Id: 3, Far: 1}, {Id: 6, Far: 1}, {Id: 10, Far: 1}}}, {[]int64{0, 0}, 24, []impl.Hit{{Id: 1}, {Id: 3, Far: 1}, {Id: 6, Far: 1}, {Id: 10, Far: 1}, {Id: 8, Far: 18}}},
		{[]int64{0, 0}, 25, []impl.Hit{{Id: 1}, {Id: 3, Far: 1}, {Id: 6, Far: 1}, {Id: 10, Far: 1}, {Id: 8, Far: 18}, {Id: 2, Far: 25}, {Id: 9, Far: 25}}},
		{[]int64{3, 3}, 1, []impl.Hit{{Id: 8}, {Id: 2, Far: 1}}}, {[]int64{3, 3}, 13, []impl.Hit{{Id: 8}, {Id: 2, Far: 1}, {Id: 3, Far: 13}, {Id: 9, Far: 13}, {Id: 10, Far: 13}}}, {[]int64{3, 3}, 12, []impl.Hit{{Id: 8}, {Id: 2, Far: 1}}},
		// A q in a cell that has none.
		{[]int64{7, 8}, 4, nil}, {[]int64{7, 8}, 5, []impl.Hit{{Id: 5, Far: 5}}}, {[]int64{-1, -1}, 1, []impl.Hit{{Id: 6, Far: 1}}},
		// Beyond all of them.
		{[]int64{1000, 9}, 991*991 - 1, nil}, {[]int64{1000, 9}, 991 * 991, []impl.Hit{{Id: 5, Far: 982081}}}, {[]int64{-1000, 0}, 999 * 999, []impl.Hit{{Id: 6, Far: 998001}}},
		// All of them.
		{[]int64{9, 9}, 181, []impl.Hit{{Id: 5}, {Id: 2, Far: 61}, {Id: 8, Far: 72}, {Id: 9, Far: 97}, {Id: 3, Far: 145}, {Id: 10, Far: 145}, {Id: 1, Far: 162}, {Id: 6, Far: 181}}},
		{[]int64{9, 9}, 180, []impl.Hit{{Id: 5}, {Id: 2, Far: 61}, {Id: 8, Far: 72}, {Id: 9, Far: 97}, {Id: 3, Far: 145}, {Id: 10, Far: 145}, {Id: 1, Far: 162}}},
	} {
		if got := impl.Near(g, c.q, c.most); !slices.Equal(got, c.want) {
			t.Errorf("Near %v by %d = %v, not %v", c.q, c.most, got, c.want)
		}
	}
	for n := 1; n <= 4; n++ {
		end, other := slices.Repeat([]int64{1000}, n), slices.Repeat([]int64{-1000}, n)
		far := int64(4000000 * n)
		for _, side := range sides {
			one := gridOf(side, []impl.Mark{{Id: impl.MaxId, At: end}})
			for _, most := range []int64{far, far + 1, greatest} {
				if got := impl.Near(one, other, most); !slices.Equal(got, []impl.Hit{{Id: impl.MaxId, Far: far}}) {
					t.Errorf("by %d Near of one alone by %d = %v", side, most, got)
				}
			}
			if got := impl.Near(one, other, far-1); len(got) != 0 {
				t.Errorf("by %d Near of one alone by %d = %v", side, far-1, got)
			}
		}
	}
}

// nothingIn asks for the fixed answer of all that take a grid.
func nothingIn(t *testing.T, g impl.Grid, places ...[]int64) {
	t.Helper()
	if cells := impl.Cells(g); len(cells) != 0 {
		t.Errorf("Cells(%v) = %v", g, cells)
	}
	if crowd := impl.Crowd(g); crowd != -1 {
		t.Errorf("Crowd(%v) = %d", g, crowd)
	}
	for _, p := range places {
		if ids := impl.InCell(g, p); len(ids) != 0 {
			t.Errorf("InCell(%v, %v) = %v", g, p, ids)
		}
		for _, most := range []int64{0, 25, greatest} {
			if got := impl.Near(g, p, most); len(got) != 0 {
				t.Errorf("Near(%v, %v, %d) = %v", g, p, most, got)
			}
		}
	}
}

func TestCellWrong(t *testing.T) {
	for _, p := range noPoints() {
		for _, side := range slices.Concat(sides, noSides) {
			if g := impl.Cell(p, side); len(g) != 0 {
				t.Errorf("Cell(%v, %d) = %v", p, side, g)
			}
		}
	}
	for n := 1; n <= 4; n++ {
		for _, p := range somePoints(n) {
			for _, side := range noSides {
				if g := impl.Cell(p, side); len(g) != 0 {
					t.Fatalf("Cell(%v, %d) = %v", p, side, g)
				}
			}
		}
	}
}

func TestGridWrongSide(t *testing.T) {
	for _, list := range manyMarks() {
		n := long(list)
		for _, side := range noSides {
			nothingIn(t, gridOf(side, list), make([]int64, n), slices.Repeat([]int64{-1}, n), nil)
			if len(list) > 0 {
				nothingIn(t, gridOf(side, list), list[0].At)
			}
		}
	}
	for n := 1; n <= 4; n++ {
		at := make([]int64, n)
		for side := int64(-3); side <= impl.MaxAt+3; side++ {
			g := gridOf(side, marksOf([]int64{3, 8}, at...))
			if side < 1 || side > impl.MaxAt {
				nothingIn(t, g, at)
				continue
			}
			if len(impl.Cells(g)) != 1 || impl.Crowd(g) != 2 || len(impl.InCell(g, at)) != 2 || len(impl.Near(g, at, 0)) != 2 {
				t.Errorf("the right side %d is refused", side)
			}
		}
	}
}

func TestGridWrongMarks(t *testing.T) {
	for _, list := range noMarks() {
		for _, side := range []int64{1, 4, impl.MaxAt, 0, -1, impl.MaxAt + 1} {
			for n := range 6 {
				nothingIn(t, gridOf(side, list), make([]int64, n), slices.Repeat([]int64{1}, n))
			}
			for _, m := range list {
				nothingIn(t, gridOf(side, list), m.At)
			}
		}
	}
}

func TestGridOfNoMarks(t *testing.T) {
	for _, none := range [][]impl.Mark{nil, {}, make([]impl.Mark, 0, 5)} {
		for _, side := range sides {
			g := gridOf(side, none)
			if cells, crowd := impl.Cells(g), impl.Crowd(g); len(cells) != 0 || crowd != 0 {
				t.Errorf("by %d: %v and %d", side, cells, crowd)
			}
			for _, p := range append(noPoints(), []int64{0}, []int64{0, 0}, []int64{1, 2, 3}, make([]int64, 4)) {
				if ids, got := impl.InCell(g, p), impl.Near(g, p, greatest); len(ids) != 0 || len(got) != 0 {
					t.Errorf("by %d at %v: %v and %v", side, p, ids, got)
				}
			}
		}
		for _, side := range noSides {
			nothingIn(t, gridOf(side, none), nil, []int64{0}, []int64{0, 0})
		}
	}
}

// A cell as long as the marks has those in it; one that is shorter or longer
// has none, also where the numbers that both have, or noughts, are alike.
func TestInCellOfAnotherLength(t *testing.T) {
	for n := 1; n <= 4; n++ {
		for _, x := range []int64{0, 3, -3} {
			at := slices.Repeat([]int64{x}, n)
			for _, side := range sides {
				g := gridOf(side, marksOf(risingIds(1, 3), at...))
				cell := cellAt(at, side)
				if ids := impl.InCell(g, cell); !slices.Equal(ids, []int64{1, 2, 3}) {
					t.Errorf("InCell(%v, %v) = %v", g, cell, ids)
				}
				long := slices.Concat(cell, cell, make([]int64, 4))
				zeros := append(slices.Clone(cell), make([]int64, 9)...)
				for other := range len(long) {
					if other == n {
						continue
					}
					for _, wrong := range [][]int64{long[:other], zeros[:other], make([]int64, other)} {
						if ids := impl.InCell(g, wrong); len(ids) != 0 {
							t.Errorf("InCell(%v, %v) = %v", g, wrong, ids)
						}
					}
				}
			}
		}
	}
}

// Numbers that no mark's cell has: just beside, and at the ends of what there is.
func TestInCellOfNoMark(t *testing.T) {
	for n := 1; n <= 4; n++ {
		for _, side := range sides {
			at := slices.Repeat([]int64{-1000}, n)
			g := gridOf(side, marksOf([]int64{7}, at...))
			cell := cellAt(at, side)
			for i := range n {
				for _, x := range []int64{cell[i] - 1, cell[i] + 1, -cell[i], cell[i] + 1<<32, cell[i] - 1<<32, cell[i] + 1<<16, 1001, least, least + 1, greatest, greatest - 1} {
					if ids := impl.InCell(g, with(cell, i, x)); len(ids) != 0 {
						t.Errorf("InCell(%v, %v) = %v", g, with(cell, i, x), ids)
					}
				}
			}
			if ids := impl.InCell(g, cell); !slices.Equal(ids, []int64{7}) {
				t.Errorf("InCell(%v, %v) = %v", g, cell, ids)
			}
		}
	}
}

func TestNearWrong(t *testing.T) {
	for n := 1; n <= 4; n++ {
		for _, count := range []int{1, 2, 7, impl.MaxMarks} {
			for _, side := range []int64{1, 4, 300, impl.MaxAt} {
				list := someMarks(walkOf(uint64(n)), count, n, 9)
				g := gridOf(side, list)
				for _, q := range noPlaces(n) {
					for _, most := range []int64{0, 1000, greatest, -1} {
						if got := impl.Near(g, q, most); len(got) != 0 {
							t.Errorf("Near(%v, %v, %d) = %v", g, q, most, got)
						}
					}
				}
				for _, most := range noMosts {
					if got := impl.Near(g, list[0].At, most); len(got) != 0 {
						t.Errorf("Near(%v, %v, %d) = %v", g, list[0].At, most, got)
					}
				}
				if len(impl.Near(g, list[0].At, 0)) == 0 || len(impl.Near(g, list[0].At, greatest)) != count {
					t.Errorf("%v: the right ones are refused", g)
				}
			}
		}
	}
}

func TestGridArgumentsStay(t *testing.T) {
	for i, marks := range slices.Concat(eachMarks(), noMarks()) {
		list, whole := roomyMarks(marks)
		kept := memory(whole)
		for _, side := range []int64{sides[i%len(sides)], noSides[i%len(noSides)]} {
			g := gridOf(side, list)
			for _, cell := range impl.Cells(g) {
				spoilNumbers(cell)
			}
			impl.Crowd(g)
			points := [][]int64{make([]int64, long(marks)), {1, 1}, nil, {least, 1, greatest}}
			for _, m := range marks[:min(2, len(marks))] {
				points = append(points, m.At)
			}
			for _, p := range points {
				q, wholeQ := roomy(p)
				keptQ := slices.Clone(wholeQ)
				spoilNumbers(impl.Cell(q, side))
				spoilNumbers(impl.InCell(g, q))
				for _, most := range []int64{0, 9, greatest, -1} {
					spoil(impl.Near(g, q, most))
				}
				if !slices.Equal(wholeQ, keptQ) {
					t.Fatalf("%v became %v", keptQ, wholeQ)
				}
			}
			if g.Side != side || len(g.Marks) != len(marks) {
				t.Fatalf("the grid became %v", g)
			}
		}
		if !slices.Equal(memory(whole), kept) {
			t.Fatalf("%v became %v", marks, list)
		}
	}
}

// By a Side of 1 a cell has the numbers of its mark, but not its memory; and
// each list of Cells is its own, with the room behind it.
func TestGridAnswersAreNew(t *testing.T) {
	for n := 1; n <= 4; n++ {
		for _, side := range []int64{1, 3, impl.MaxAt} {
			for _, count := range []int{1, 2, 9, impl.MaxMarks} {
				list := someMarks(walkOf(79), count, n, 30)
				g := gridOf(side, list)
				want, first, second := cellsIn(g), impl.Cells(g), impl.Cells(g)
				for i := range first {
					if !sameCells(first[i:], want[i:]) {
						t.Fatalf("behind %d: %v, not %v", i, first[i:], want[i:])
					}
					spoilNumbers(first[i])
				}
				own := impl.Cell(list[0].At, side)
				in, again := impl.InCell(g, own), impl.InCell(g, own)
				wantIn, wantNear := inCellOf(g, want[0]), nearOf(list, list[0].At, 100)
				near, nearAgain := impl.Near(g, list[0].At, 100), impl.Near(g, list[0].At, 100)
				spoilNumbers(in)
				spoil(near)
				for i := range list {
					spoilNumbers(list[i].At)
					list[i].Id = -5
				}
				if !sameCells(second, want) || !slices.Equal(own, want[0]) || !slices.Equal(again, wantIn) || !slices.Equal(nearAgain, wantNear) {
					t.Fatalf("%v, %v, %v, %v became %v, %v, %v, %v", want, want[0], wantIn, wantNear, second, own, again, nearAgain)
				}
			}
		}
	}
}

// Where all marks are one memory, the cells told are not.
func TestCellOfSharedMemory(t *testing.T) {
	p := []int64{5, -6, 0, 1000}
	list := []impl.Mark{{Id: 1, At: p[:2]}, {Id: 2, At: p[1:3]}, {Id: 3, At: p[2:]}}
	cells := impl.Cells(gridOf(1, list))
	for i, want := range [][]int64{{5, -6}, {-6, 0}, {0, 1000}} {
		if len(cells) != 3 || !slices.Equal(cells[i], want) {
			t.Fatalf("%v: %v is not there", cells, want)
		}
		spoilNumbers(cells[i])
	}
	cell := impl.Cell(p, 1)
	spoilNumbers(cell)
	if !slices.Equal(p, []int64{5, -6, 0, 1000}) {
		t.Errorf("the marks became %v", p)
	}
}

// The order in which a map is gone through does not tell.
func TestGridTellsTheSameAgain(t *testing.T) {
	for _, n := range []int{1, 2, 4} {
		g := gridOf(2, someMarks(walkOf(80), impl.MaxMarks, n, 6))
		q := make([]int64, n)
		cells, near, crowd := impl.Cells(g), impl.Near(g, q, 40), impl.Crowd(g)
		for range 50 {
			if !sameCells(impl.Cells(g), cells) || !slices.Equal(impl.Near(g, q, 40), near) || impl.Crowd(g) != crowd {
				t.Fatalf("%v is told otherwise", g)
			}
		}
	}
}
