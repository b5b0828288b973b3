package tests

import (
	"cmp"
	"fmt"
	"slices"
	"strconv"
	"testing"

	"loop.example/g00273/impl"
)

// offLine are numbers that chapter 8 refuses; some of them have one of the
// right numbers in their lowest bits.
var offLine = []int64{-1, -2, -512, -1023, -1024, 1024, 1025, 1026, 1536, 2047, 2048, 1 << 32, 1<<32 + 5, -1 << 32, 1 << 62, least, least + 1, greatest, greatest - 1}

// lastCode is the greatest that there is in 40 bits.
const lastCode = 1<<40 - 1

// noCodes are numbers that Prefix refuses; some of them have a right one in
// their lowest bits.
var noCodes = []int64{-1, -2, -lastCode, -lastCode - 1, -lastCode - 2, lastCode + 1, lastCode + 2, lastCode + 6, 1 << 41, 1<<41 - 1, 1 << 62, least, least + 1, least + 5, greatest, greatest - 1}

// codeOf is Weave by the document's words, its bits written the highest first.
func codeOf(p []int64) int64 {
	text := ""
	for i := 9; i >= 0; i-- {
		for k := len(p) - 1; k >= 0; k-- {
			text += strconv.FormatInt(p[k]>>i&1, 2)
		}
	}
	code, err := strconv.ParseInt(text, 2, 64)
	if err != nil {
		panic(err)
	}
	return code
}

// alikeOf is Prefix by the document's words, digit by digit.
func alikeOf(a, b int64) int64 {
	first, other := fmt.Sprintf("%040b", a), fmt.Sprintf("%040b", b)
	for i := range first {
		if first[i] != other[i] {
			return int64(i)
		}
	}
	return 40
}

// lastOf is the greatest that Weave makes of n numbers.
func lastOf(n int) int64 { return 1<<(10*n) - 1 }

// linePoints has points of n numbers from 0 to 1023: all of a few numbers,
// fewer where there are more of them, and those to which next leads.
func linePoints(next func(int64) int64, n int) [][]int64 {
	few := []int64{0, 1023, 5, 512, 1, 511, 682, 1000, 1001, 1022, 341, 2}
	points := allOf(n, few[:12/n]...)
	for range 200 {
		p := make([]int64, n)
		for i := range p {
			p[i] = next(1024)
		}
		points = append(points, p)
	}
	return points
}

// lineMarks has lists of right marks with no number below 0.
func lineMarks() [][]impl.Mark {
	lists := eachMarks()
	for _, list := range lists {
		for _, m := range list {
			for i, x := range m.At {
				m.At[i] = max(x, -x)
			}
		}
	}
	return lists
}

// rankedOf are the Ids by the document's words.
func rankedOf(list []impl.Mark) []int64 {
	marks := slices.Clone(list)
	slices.SortStableFunc(marks, func(a, b impl.Mark) int {
		return cmp.Or(cmp.Compare(codeOf(a.At), codeOf(b.At)), cmp.Compare(a.Id, b.Id))
	})
	ids := []int64{}
	for _, m := range marks {
		ids = append(ids, m.Id)
	}
	return ids
}

func TestWeaveOrdinary(t *testing.T) {
	for _, c := range []struct {
		p    []int64
		want int64
	}{
		// One number is its own code.
		{[]int64{0}, 0}, {[]int64{1}, 1}, {[]int64{2}, 2}, {[]int64{512}, 512}, {[]int64{682}, 682}, {[]int64{1000}, 1000}, {[]int64{1001}, 1001}, {[]int64{1023}, 1023},
		// Of two the first has the even places.
		{[]int64{0, 0}, 0}, {[]int64{1, 0}, 1}, {[]int64{0, 1}, 2}, {[]int64{1, 1}, 3}, {[]int64{2, 0}, 4}, {[]int64{0, 2}, 8}, {[]int64{3, 1}, 7}, {[]int64{1, 3}, 11}, {[]int64{3, 3}, 15},
		{[]int64{512, 0}, 1 << 18}, {[]int64{0, 512}, 1 << 19}, {[]int64{1023, 0}, 0x55555}, {[]int64{0, 1023}, 0xaaaaa}, {[]int64{1023, 1023}, 0xfffff},
		{[]int64{1, 0, 0}, 1}, {[]int64{0, 1, 0}, 2}, {[]int64{0, 0, 1}, 4}, {[]int64{2, 0, 0}, 8}, {[]int64{5, 3, 6}, 0b101_110_011}, {[]int64{0, 0, 512}, 1 << 29}, {[]int64{1023, 1023, 1023}, 1<<30 - 1},
		{[]int64{1, 2, 3, 4}, 0b1000_0110_0101}, {[]int64{4, 3, 2, 1}, 0b0001_0110_1010}, {[]int64{512, 0, 0, 0}, 1 << 36}, {[]int64{0, 0, 0, 512}, 1 << 39},
		{[]int64{1023, 0, 0, 0}, 0x1111111111}, {[]int64{0, 0, 0, 1023}, 0x8888888888}, {[]int64{1023, 1023, 1023, 1023}, lastCode},
	} {
		if g := impl.Weave(c.p); g != c.want {
			t.Errorf("Weave(%v) = %d, not %d", c.p, g, c.want)
		}
		if g := impl.Unweave(c.want, int64(len(c.p))); !slices.Equal(g, c.p) {
			t.Errorf("Unweave(%d, %d) = %v, not %v", c.want, len(c.p), g, c.p)
		}
	}
}

// Bit i of number k of n is bit n i and k, alone and beside all others.
func TestWeaveEachBit(t *testing.T) {
	for n := 1; n <= 4; n++ {
		all := slices.Repeat([]int64{1023}, n)
		for k := range n {
			for i := range 10 {
				bit := int64(1) << (n*i + k)
				alone, others := with(make([]int64, n), k, 1<<i), with(all, k, 1023-1<<i)
				if g, h := impl.Weave(alone), impl.Weave(others); g != bit || h != lastOf(n)-bit {
					t.Errorf("bit %d of number %d of %d: %d and %d", i, k, n, g, h)
				}
				if g, h := impl.Unweave(bit, int64(n)), impl.Unweave(lastOf(n)-bit, int64(n)); !slices.Equal(g, alone) || !slices.Equal(h, others) {
					t.Errorf("bit %d of %d: %v and %v", n*i+k, n, g, h)
				}
			}
		}
	}
}

func TestWeaveByItsWords(t *testing.T) {
	next := walkOf(8)
	for n := 1; n <= 4; n++ {
		for _, p := range linePoints(next, n) {
			if g, want := impl.Weave(p), codeOf(p); g != want {
				t.Fatalf("Weave(%v) = %d, not %d", p, g, want)
			}
		}
	}
}

// unweaves is the first part of promise 8 of one point.
func unweaves(t *testing.T, p []int64) {
	t.Helper()
	code := impl.Weave(p)
	if code < 0 || code > lastOf(len(p)) {
		t.Fatalf("Weave(%v) = %d", p, code)
	}
	if g := impl.Unweave(code, int64(len(p))); !slices.Equal(g, p) {
		t.Fatalf("Unweave of Weave(%v), %d, is %v", p, code, g)
	}
}

// Promise 8: Unweave of Weave is the point.
func TestUnweaveOfWeave(t *testing.T) {
	next := walkOf(81)
	for n := 1; n <= 4; n++ {
		for _, p := range linePoints(next, n) {
			unweaves(t, p)
		}
		for x := int64(0); x < 1024; x++ {
			for k := range n {
				unweaves(t, with(make([]int64, n), k, x))
				unweaves(t, with(slices.Repeat([]int64{1023 - x}, n), k, x))
			}
		}
	}
	for x := int64(0); x < 1024; x += 11 {
		for y := int64(0); y < 1024; y += 3 {
			unweaves(t, []int64{x, y})
		}
	}
}

// No two points have one code, and none is left over: each is that of its point.
func TestWeaveOfUnweave(t *testing.T) {
	next := walkOf(82)
	for n := 1; n <= 4; n++ {
		last := lastOf(n)
		codes := []int64{}
		for x := int64(0); x < 1024; x++ {
			codes = append(codes, x, last-x, (next(1<<30)<<20|next(1<<20))&last)
		}
		for _, code := range codes {
			p := impl.Unweave(code, int64(n))
			if len(p) != n || slices.Min(p) < 0 || slices.Max(p) > 1023 {
				t.Fatalf("Unweave(%d, %d) = %v", code, n, p)
			}
			if g := impl.Weave(p); g != code {
				t.Fatalf("Weave of Unweave(%d, %d), %v, is %d", code, n, p, g)
			}
		}
	}
}

// keepsBelow is the second part of promise 8 of two points, with what Below
// says by the document's words; it tells whether that held.
func keepsBelow(t *testing.T, a, b []int64) bool {
	t.Helper()
	below := true
	for i := range a {
		below = below && a[i] <= b[i]
	}
	if g := impl.Below(a, b); g != below {
		t.Fatalf("Below(%v, %v) is %v", a, b, g)
	}
	if w, v := impl.Weave(a), impl.Weave(b); below && w > v {
		t.Fatalf("%v is below %v, but %d above %d", a, b, w, v)
	}
	return below
}

// Promise 8: Weave keeps Below.
func TestWeaveKeepsBelow(t *testing.T) {
	next := walkOf(83)
	for n := 1; n <= 4; n++ {
		var held, not int
		points := linePoints(next, n)
		for i, a := range points {
			for _, b := range points[i%3:] {
				low, high := make([]int64, n), make([]int64, n)
				for k := range n {
					low[k], high[k] = min(a[k], b[k]), max(a[k], b[k])
				}
				if !keepsBelow(t, low, high) || !keepsBelow(t, low, b) || !keepsBelow(t, a, high) {
					t.Fatalf("%v and %v, of %v and %v, are not as they should be", low, high, a, b)
				}
				if keepsBelow(t, a, b) {
					held++
				} else {
					not++
				}
			}
		}
		if min(held, not) < 2000 {
			t.Errorf("of %d numbers: %d below, %d not", n, held, not)
		}
	}
}

func TestBelowOrdinary(t *testing.T) {
	for _, c := range []struct {
		a, b        []int64
		there, back bool
	}{
		// Points that are alike are below each other.
		{[]int64{0}, []int64{0}, true, true}, {[]int64{1023}, []int64{1023}, true, true}, {[]int64{1, 2}, []int64{1, 2}, true, true}, {[]int64{7, 7, 0}, []int64{7, 7, 0}, true, true}, {[]int64{1023, 0, 5, 1001}, []int64{1023, 0, 5, 1001}, true, true},
		{[]int64{4}, []int64{5}, true, false}, {[]int64{0}, []int64{1023}, true, false}, {[]int64{1, 1}, []int64{1, 2}, true, false}, {[]int64{1, 1}, []int64{2, 1}, true, false}, {[]int64{1, 1}, []int64{2, 2}, true, false},
		{[]int64{1, 2, 3}, []int64{1, 2, 4}, true, false}, {[]int64{0, 0, 0, 0}, []int64{1023, 1023, 1023, 1023}, true, false}, {[]int64{1, 2, 3, 4}, []int64{1, 3, 3, 4}, true, false},
		// Each has a number above the other's.
		{[]int64{1, 2}, []int64{2, 1}, false, false}, {[]int64{0, 1023}, []int64{1023, 0}, false, false}, {[]int64{1, 2, 3}, []int64{1, 3, 2}, false, false}, {[]int64{5, 0, 0}, []int64{4, 9, 9}, false, false}, {[]int64{1, 1, 1, 2}, []int64{9, 9, 9, 1}, false, false},
	} {
		if g := impl.Below(c.a, c.b); g != c.there {
			t.Errorf("Below(%v, %v) is %v", c.a, c.b, g)
		}
		if g := impl.Below(c.b, c.a); g != c.back {
			t.Errorf("Below(%v, %v) is %v", c.b, c.a, g)
		}
	}
}

// One number above the other's is enough, in whichever place it is.
func TestBelowEachPlace(t *testing.T) {
	for n := 1; n <= 4; n++ {
		for _, x := range []int64{0, 1, 511, 1000, 1001, 1022} {
			p := slices.Repeat([]int64{x}, n)
			for k := range n {
				above := with(p, k, x+1)
				if !impl.Below(p, above) || impl.Below(above, p) || !impl.Below(above, above) {
					t.Errorf("%v and %v", p, above)
				}
			}
		}
	}
}

func TestPrefixOrdinary(t *testing.T) {
	for _, c := range []struct{ a, b, want int64 }{
		{0, 0, 40}, {9, 9, 40}, {lastCode, lastCode, 40}, {1 << 39, 1 << 39, 40},
		{0, 1, 39}, {5, 4, 39}, {lastCode, lastCode - 1, 39}, {6, 4, 38}, {6, 5, 38}, {7, 8, 36}, {1023, 1024, 29}, {0, 1023, 30}, {0, 1 << 38, 1}, {1 << 38, 1<<38 + 1<<37, 2},
		{0, lastCode, 0}, {0, 1 << 39, 0}, {lastCode, lastCode >> 1, 0}, {1<<39 - 1, 1 << 39, 0}, {1<<39 + 7, 7, 0}, {lastCode, 1 << 39, 1}, {1 << 32, 1<<32 + 1, 39}, {1 << 32, 0, 7}, {1<<31 - 1, 1 << 31, 8},
	} {
		if g, h := impl.Prefix(c.a, c.b), impl.Prefix(c.b, c.a); g != c.want || h != c.want {
			t.Errorf("Prefix(%d, %d) = %d, the other way %d, not %d", c.a, c.b, g, h, c.want)
		}
	}
}

// The highest unlike bit tells, whatever is below it.
func TestPrefixEachBit(t *testing.T) {
	for place := range 40 {
		bit := int64(1) << place
		for _, below := range []int64{0, 1, bit - 1, (bit - 1) & 0x5555555555, bit >> 1} {
			for _, x := range []int64{0, lastCode, 0x5555555555, 0x123456789a} {
				unlike := x ^ (bit | below&(bit-1))
				if g := impl.Prefix(x, unlike); g != int64(39-place) {
					t.Errorf("Prefix(%d, %d) = %d, not %d", x, unlike, g, 39-place)
				}
			}
		}
	}
}

// someCodes has numbers from 0 to 2^40 - 1, some of them near to each other.
func someCodes(next func(int64) int64) []int64 {
	codes := []int64{0, 1, 2, 3, 4, 7, 8, lastCode - 1, lastCode, 1<<39 - 1, 1 << 39, 1<<39 + 1, 1<<20 - 1, 1 << 20, 1 << 30}
	for range 40 {
		code := next(1<<20)<<20 | next(1<<20)
		codes = append(codes, code, code^1, code^next(1024), code>>next(40))
	}
	return codes
}

// Promise 8: what lies between two numbers has their Prefix.
func TestBetweenHasThePrefix(t *testing.T) {
	codes := someCodes(walkOf(84))
	slices.Sort(codes)
	for i, a := range codes {
		for k := i; k < len(codes); k++ {
			b := codes[k]
			both := impl.Prefix(a, b)
			if want := alikeOf(a, b); both != want || impl.Prefix(b, a) != want {
				t.Fatalf("Prefix(%d, %d) = %d, not %d", a, b, both, want)
			}
			for _, between := range codes[i : k+1] {
				if first, other := impl.Prefix(a, between), impl.Prefix(between, b); first < both || other < both {
					t.Fatalf("%d has %d alike with %d, %d with %d, which have %d", between, first, a, other, b, both)
				}
			}
		}
	}
}

// Promise 8 of each three of few numbers, low ones and the last ones.
func TestBetweenHasThePrefixEach(t *testing.T) {
	for _, first := range []int64{0, 1<<39 - 12, lastCode - 23} {
		for a := first; a < first+24; a++ {
			for b := a; b < first+24; b++ {
				both := impl.Prefix(a, b)
				for between := a; between <= b; between++ {
					if impl.Prefix(a, between) < both || impl.Prefix(between, b) < both {
						t.Fatalf("%d between %d and %d has not their %d", between, a, b, both)
					}
				}
			}
		}
	}
}

func TestRankedOrdinary(t *testing.T) {
	for _, c := range []struct {
		list []impl.Mark
		want []int64
	}{
		{nil, nil}, {[]impl.Mark{}, nil}, {make([]impl.Mark, 0, 3), nil},
		{marksOf([]int64{7}, 1000, 0, 1000, 3), []int64{7}}, {marksOf([]int64{impl.MaxId}, 0), []int64{impl.MaxId}},
		{[]impl.Mark{{Id: 1, At: []int64{0, 2}}, {Id: 2, At: []int64{3, 1}}, {Id: 3, At: []int64{0, 0}}}, []int64{3, 2, 1}},
		// In the order of their numbers, and against it.
		{[]impl.Mark{{Id: 4, At: []int64{0}}, {Id: 5, At: []int64{1}}, {Id: 6, At: []int64{999}}, {Id: 8, At: []int64{1000}}}, []int64{4, 5, 6, 8}},
		{[]impl.Mark{{Id: 4, At: []int64{1000}}, {Id: 5, At: []int64{999}}, {Id: 6, At: []int64{1}}, {Id: 8, At: []int64{0}}}, []int64{8, 6, 5, 4}},
		// All alike are by Id, and some alike ones among others.
		{marksOf([]int64{2, 3, 10, 11, 100}, 5, 6, 7), []int64{2, 3, 10, 11, 100}},
		{[]impl.Mark{{Id: 1, At: []int64{1, 1}}, {Id: 2, At: []int64{0, 1}}, {Id: 3, At: []int64{1, 1}}, {Id: 4, At: []int64{0, 1}}, {Id: 5, At: []int64{1, 0}}}, []int64{5, 2, 4, 1, 3}},
		// The last number has the highest bit, and one high bit is above all lower ones.
		{[]impl.Mark{{Id: 1, At: []int64{0, 0, 512}}, {Id: 2, At: []int64{0, 512, 0}}, {Id: 3, At: []int64{512, 0, 0}}, {Id: 4, At: []int64{511, 511, 511}}}, []int64{4, 3, 2, 1}},
		{[]impl.Mark{{Id: 1, At: []int64{1000, 511}}, {Id: 2, At: []int64{0, 512}}, {Id: 3, At: []int64{4, 3}}, {Id: 4, At: []int64{3, 4}}}, []int64{3, 4, 1, 2}},
	} {
		if g := impl.Ranked(c.list); !slices.Equal(g, c.want) {
			t.Errorf("Ranked(%v) = %v, not %v", c.list, g, c.want)
		}
	}
}

func TestRankedByItsWords(t *testing.T) {
	var moved, full int
	for _, list := range lineMarks() {
		want := rankedOf(list)
		if g := impl.Ranked(list); !slices.Equal(g, want) {
			t.Fatalf("Ranked(%v) = %v, not %v", list, g, want)
		}
		if !slices.IsSorted(want) {
			moved++
		}
		if len(list) == impl.MaxMarks {
			full++
		}
	}
	if moved < 50 || full < 10 {
		t.Errorf("%d in another order, %d full", moved, full)
	}
}

// Each one is ahead of the next by Weave, of alike ones by Id; where one is
// Below another, it is not behind it unless they are alike.
func TestRankedKeepsBelow(t *testing.T) {
	for _, list := range lineMarks() {
		at := map[int64][]int64{}
		for _, m := range list {
			at[m.Id] = m.At
		}
		ids := impl.Ranked(list)
		if len(ids) != len(list) {
			t.Fatalf("Ranked(%v) = %v", list, ids)
		}
		for i, id := range ids {
			for _, other := range ids[i+1:] {
				w, v := impl.Weave(at[id]), impl.Weave(at[other])
				if w > v || w == v && id >= other {
					t.Fatalf("%d is ahead of %d in %v", id, other, ids)
				}
				if impl.Below(at[other], at[id]) && !slices.Equal(at[other], at[id]) {
					t.Fatalf("%v is behind %v", at[other], at[id])
				}
			}
		}
	}
}

func TestRankedMany(t *testing.T) {
	for n := 1; n <= 4; n++ {
		for _, count := range []int{1, 2, 59, impl.MaxMarks} {
			rising, falling := []impl.Mark{}, []impl.Mark{}
			for i := range count {
				x := int64(16 * i)
				rising = append(rising, impl.Mark{Id: int64(i + 1), At: slices.Repeat([]int64{x}, n)})
				falling = append(falling, impl.Mark{Id: int64(i + 1), At: slices.Repeat([]int64{1000 - x}, n)})
			}
			ids := risingIds(1, count)
			if g := impl.Ranked(rising); !slices.Equal(g, ids) {
				t.Errorf("%d in order: %v", count, g)
			}
			slices.Reverse(ids)
			if g := impl.Ranked(falling); !slices.Equal(g, ids) {
				t.Errorf("%d against the order: %v", count, g)
			}
		}
	}
}

// notOnLine are lists that no function of chapter 8 takes as a point.
func notOnLine() [][]int64 {
	lists := [][]int64{nil, {}, make([]int64, 0, 4), make([]int64, 5), {1, 2, 3, 4, 5}, {1023, 1023, 1023, 1023, 1023}, make([]int64, 6), make([]int64, 63), make([]int64, 64), make([]int64, 100)}
	for n := 1; n <= 4; n++ {
		for k := range n {
			for _, x := range offLine {
				lists = append(lists, with(make([]int64, n), k, x), with(slices.Repeat([]int64{1023}, n), k, x))
			}
		}
	}
	return lists
}

func TestWeaveWrong(t *testing.T) {
	for _, p := range notOnLine() {
		if g := impl.Weave(p); g != -1 {
			t.Errorf("Weave(%v) = %d", p, g)
		}
	}
}

// 0 and 1023 are right, -1 and 1024 are not, in each place.
func TestLineEdges(t *testing.T) {
	for n := 1; n <= 4; n++ {
		for k := range n {
			for x := int64(-1100); x <= 2100; x++ {
				p := with(slices.Repeat([]int64{5}, n), k, x)
				right := x >= 0 && x <= 1023
				if g := impl.Weave(p); g >= 0 != right || !right && g != -1 {
					t.Errorf("Weave(%v) = %d", p, g)
				}
				if g := impl.Below(p, p); g != right {
					t.Errorf("Below(%v, %v) is %v", p, p, g)
				}
			}
		}
	}
}

func TestUnweaveEdges(t *testing.T) {
	for n := 1; n <= 4; n++ {
		if g := impl.Unweave(0, int64(n)); !slices.Equal(g, make([]int64, n)) {
			t.Errorf("Unweave(0, %d) = %v", n, g)
		}
		if g := impl.Unweave(lastOf(n), int64(n)); !slices.Equal(g, slices.Repeat([]int64{1023}, n)) {
			t.Errorf("Unweave(%d, %d) = %v", lastOf(n), n, g)
		}
		for _, code := range []int64{lastOf(n) + 1, lastOf(n) + 2, 2*lastOf(n) + 1, lastOf(n) + 1<<45, 1 << 41, 1 << 62, -1, -2, -lastOf(n), -lastOf(n) - 1, least, least + 1, greatest, greatest - 1} {
			if g := impl.Unweave(code, int64(n)); len(g) != 0 {
				t.Errorf("Unweave(%d, %d) = %v", code, n, g)
			}
		}
	}
}

func TestUnweaveWrongCount(t *testing.T) {
	for _, n := range []int64{0, 5, 6, 7, 40, 41, 64, -1, -2, -4, -1 << 32, 1 << 32, 1<<32 + 1, 1<<32 + 4, 1 << 62, 1<<62 + 1, least, least + 1, least + 4, greatest, greatest - 1} {
		for _, code := range []int64{0, 1, 7, 1023, 1024, lastCode, lastCode + 1, -1, least, greatest} {
			if g := impl.Unweave(code, n); len(g) != 0 {
				t.Errorf("Unweave(%d, %d) = %v", code, n, g)
			}
		}
	}
}

func TestBelowWrong(t *testing.T) {
	rights := [][]int64{{0}, {1023}, {0, 0}, {1023, 1023}, {0, 0, 0}, {1023, 1023, 1023}, {0, 0, 0, 0}, {1023, 1023, 1023, 1023}}
	wrongs := notOnLine()
	for _, wrong := range wrongs {
		for _, p := range append(rights, wrong, slices.Clone(wrong)) {
			if impl.Below(wrong, p) || impl.Below(p, wrong) {
				t.Errorf("%v and %v", wrong, p)
			}
		}
	}
	for i, a := range wrongs {
		for _, b := range wrongs[:i] {
			if impl.Below(a, b) || impl.Below(b, a) {
				t.Fatalf("%v and %v", a, b)
			}
		}
	}
	for _, a := range rights {
		for _, b := range rights {
			if len(a) != len(b) && impl.Below(a, b) {
				t.Errorf("Below(%v, %v) is true", a, b)
			}
		}
	}
}

func TestPrefixWrong(t *testing.T) {
	rights := []int64{0, 1, 5, 1023, 1 << 39, lastCode - 1, lastCode}
	for _, wrong := range noCodes {
		for _, x := range slices.Concat(rights, noCodes) {
			if g, h := impl.Prefix(wrong, x), impl.Prefix(x, wrong); g != -1 || h != -1 {
				t.Errorf("Prefix(%d, %d) = %d, the other way %d", wrong, x, g, h)
			}
		}
	}
	for _, a := range rights {
		for _, b := range rights {
			if g := impl.Prefix(a, b); g < 0 || g != alikeOf(a, b) {
				t.Errorf("Prefix(%d, %d) = %d", a, b, g)
			}
		}
	}
}

func TestRankedWrong(t *testing.T) {
	for _, list := range noMarks() {
		if g := impl.Ranked(list); len(g) != 0 {
			t.Errorf("Ranked(%v) = %v", list, g)
		}
	}
	// One number below 0, in any place of any mark, refuses all; so does one
	// that is on the line but in no point.
	for n := 1; n <= 4; n++ {
		for _, count := range []int{1, 2, 7, impl.MaxMarks} {
			for i := range count {
				list := marksOf(risingIds(3, count), make([]int64, n)...)
				for _, x := range slices.Concat([]int64{-3, -999, -1000, 1001, 1022, 1023}, offLine) {
					list[i].At[i%n] = x
					if g := impl.Ranked(list); len(g) != 0 {
						t.Errorf("Ranked with %d under %d of %d = %v", x, i, count, g)
					}
				}
				for _, x := range []int64{0, 1, 999, 1000} {
					list[i].At[i%n] = x
					if g := impl.Ranked(list); len(g) != count {
						t.Errorf("Ranked with %d under %d of %d = %v", x, i, count, g)
					}
				}
			}
		}
	}
}

func TestLineArgumentsStay(t *testing.T) {
	points := notOnLine()
	for n := 1; n <= 4; n++ {
		points = append(points, linePoints(walkOf(85), n)[:30]...)
	}
	for i, p := range points {
		a, wholeA := roomy(p)
		b, wholeB := roomy(points[(7*i+3)%len(points)])
		keptA, keptB := slices.Clone(wholeA), slices.Clone(wholeB)
		impl.Weave(a)
		impl.Below(a, b)
		impl.Below(b, a)
		impl.Below(a, a)
		if !slices.Equal(wholeA, keptA) || !slices.Equal(wholeB, keptB) {
			t.Fatalf("%v and %v became %v and %v", keptA, keptB, wholeA, wholeB)
		}
	}
	for _, marks := range slices.Concat(lineMarks(), eachMarks(), noMarks()) {
		list, whole := roomyMarks(marks)
		kept := memory(whole)
		spoilNumbers(impl.Ranked(list))
		if !slices.Equal(memory(whole), kept) {
			t.Fatalf("%v became %v", marks, list)
		}
	}
}

func TestLineAnswersAreNew(t *testing.T) {
	for n := 1; n <= 4; n++ {
		for _, code := range []int64{0, 1, 777, lastOf(n)} {
			first, second := impl.Unweave(code, int64(n)), impl.Unweave(code, int64(n))
			spoilNumbers(first)
			if impl.Weave(second) != code || !slices.Equal(impl.Unweave(code, int64(n)), second) {
				t.Errorf("Unweave(%d, %d) became %v", code, n, second)
			}
		}
	}
	for _, list := range lineMarks() {
		want := rankedOf(list)
		first, second := impl.Ranked(list), impl.Ranked(list)
		spoilNumbers(first)
		for i := range list {
			spoilNumbers(list[i].At)
			list[i].Id = -5
		}
		if !slices.Equal(second, want) {
			t.Fatalf("%v became %v", want, second)
		}
	}
}
