package tests

import (
	"slices"
	"testing"

	"loop.example/g00273/impl"
)

// mostLevels is how many Levels of a number chapter 13 takes.
const mostLevels = 16

// notNamed are numbers that name no Level of so many.
func notNamed(many int) []int64 {
	count := int64(many)
	return []int64{-1, -2, -count, -count - 1, count, count + 1, count + 2, 2*count + 15, 1 << 32, 1<<32 + 1, -1 << 32, least, least + 1, greatest, greatest - 1}
}

func gapOf(a, b int64) int64 { return max(a-b, b-a) }

// levelsIn is LevelsOk by the document's words.
func levelsIn(levels [][]int64) bool {
	if len(levels) < 1 || len(levels) > 4 {
		return false
	}
	for _, list := range levels {
		if len(list) < 1 || len(list) > mostLevels || !rising(list) {
			return false
		}
		if slices.ContainsFunc(list, func(x int64) bool { return x < -1000 || x > 1000 }) {
			return false
		}
	}
	return true
}

// codedIn is Coded by the document's words: all Levels of a number are looked
// at, and of alike near ones the first is the less.
func codedIn(p []int64, levels [][]int64) []int64 {
	code := []int64{}
	for i, x := range p {
		gaps := []int64{}
		for _, level := range levels[i] {
			gaps = append(gaps, gapOf(x, level))
		}
		code = append(code, int64(slices.Index(gaps, slices.Min(gaps))))
	}
	return code
}

// decodedIn is Decoded by the document's words.
func decodedIn(code []int64, levels [][]int64) []int64 {
	p := []int64{}
	for i, at := range code {
		p = append(p, levels[i][at])
	}
	return p
}

// drawnLevels are count numbers from low to high, rising.
func drawnLevels(next func(int64) int64, count int, low, high int64) []int64 {
	list := []int64{}
	for len(list) < count {
		list = append(list, low+next(high-low+1))
		slices.Sort(list)
		list = slices.Compact(list)
	}
	return list
}

// evenLevels are count numbers from first on, each apart from the next.
func evenLevels(count int, first, apart int64) []int64 {
	list := []int64{}
	for i := range count {
		list = append(list, first+int64(i)*apart)
	}
	return list
}

// endLevels are right Levels of one number that reach to the ends, lie side
// by side or are far apart.
func endLevels() [][]int64 {
	return [][]int64{
		{-1000}, {0}, {7}, {1000}, {-1000, 1000}, {-1000, -999}, {999, 1000}, {-1000, 0, 1000}, {-1, 0, 1}, {-2, 1}, {0, 4, 9}, {-3, 3},
		{-1000, -500, 0, 1, 2, 999}, evenLevels(mostLevels, -1000, 1), evenLevels(mostLevels, -1000, 133), evenLevels(mostLevels, -995, 133),
		evenLevels(mostLevels, 985, 1), evenLevels(mostLevels, -15, 2), evenLevels(mostLevels-1, 0, 3), {-1000, -8, -4, -2, -1, 0, 1, 2, 4, 8, 16, 32, 64, 128, 256, 1000},
	}
}

// manyLevels has right Levels of 1 to 4 numbers: one of a number, some, and
// as many as there may be; close together, and anywhere.
func manyLevels() [][][]int64 {
	next, all := walkOf(13), [][][]int64{}
	for n := 1; n <= 4; n++ {
		for _, wide := range []int64{8, 30, 200, 1000} {
			for count := 1; count <= mostLevels; count++ {
				alike, unlike := [][]int64{}, [][]int64{}
				for range n {
					alike = append(alike, drawnLevels(next, count, -wide, wide))
					unlike = append(unlike, drawnLevels(next, 1+int(next(mostLevels)), -wide, wide))
				}
				all = append(all, alike, unlike)
			}
		}
		ends := endLevels()
		for i := range ends {
			levels := [][]int64{}
			for k := range n {
				levels = append(levels, slices.Clone(ends[(i+k*7)%len(ends)]))
			}
			all = append(all, levels)
		}
	}
	return all
}

// numberAbout is on a Level of the list, in the middle of two or beside it,
// below the least, above the greatest, at an end, or anywhere.
func numberAbout(next func(int64) int64, list []int64) int64 {
	at := next(int64(len(list)))
	x, above := list[at], list[min(at+1, int64(len(list))-1)]
	switch next(8) {
	case 0:
	case 1:
		x += next(5) - 2
	case 2:
		x = (x + above) / 2
	case 3:
		x = (x+above)/2 + next(3) - 1
	case 4:
		x = list[0] - 1 - next(9)
	case 5:
		x = list[len(list)-1] + 1 + next(9)
	case 6:
		x = 2000*next(2) - 1000
	default:
		x = next(2001) - 1000
	}
	return min(max(x, -1000), 1000)
}

// pointsAbout are count points, each of their numbers about its Levels.
func pointsAbout(next func(int64) int64, levels [][]int64, count int) [][]int64 {
	points := [][]int64{}
	for range count {
		p := []int64{}
		for _, list := range levels {
			p = append(p, numberAbout(next, list))
		}
		points = append(points, p)
	}
	return points
}

// pointAndCode are a right point and the code of another one.
func pointAndCode(next func(int64) int64, levels [][]int64) (p, code []int64) {
	points := pointsAbout(next, levels, 2)
	return points[0], codedIn(points[1], levels)
}

// codesOf are all codes where they are few, else some, the first and the last
// one among them.
func codesOf(next func(int64) int64, levels [][]int64) [][]int64 {
	all := [][]int64{{}}
	for _, list := range levels {
		longer := [][]int64{}
		for _, code := range all {
			for at := range list {
				longer = append(longer, append(slices.Clone(code), int64(at)))
			}
		}
		all = longer
	}
	if len(all) <= 300 {
		return all
	}
	some := [][]int64{all[0], all[len(all)-1]}
	for range 60 {
		some = append(some, all[next(int64(len(all)))])
	}
	return some
}

// codes asks all functions of a point for what they are to answer.
func codes(t *testing.T, p []int64, levels [][]int64, code, decoded []int64, off int64) {
	t.Helper()
	if !impl.LevelsOk(levels) {
		t.Fatalf("LevelsOk(%v) is false", levels)
	}
	if g := impl.Coded(p, levels); !slices.Equal(g, code) {
		t.Fatalf("Coded(%v, %v) = %v, not %v", p, levels, g, code)
	}
	if g := impl.Decoded(code, levels); !slices.Equal(g, decoded) {
		t.Fatalf("Decoded(%v, %v) = %v, not %v", code, levels, g, decoded)
	}
	if g := impl.Off(p, levels); g != off {
		t.Fatalf("Off(%v, %v) = %d, not %d", p, levels, g, off)
	}
	if g := impl.Sum(p, code, levels); g != off {
		t.Fatalf("Sum(%v, %v, %v) = %d, not %d", p, code, levels, g, off)
	}
}

// codesInEach asks for a number and its Levels alone, and in each place of a
// point with others, which lie on Levels of their own.
func codesInEach(t *testing.T, x int64, list []int64, at int64) {
	t.Helper()
	for n := 1; n <= 4; n++ {
		for i := range n {
			p, levels, code := []int64{}, [][]int64{}, []int64{}
			for k := range n {
				p, levels, code = append(p, int64(k)), append(levels, []int64{-9, int64(k)}), append(code, 1)
			}
			decoded := with(p, i, list[at])
			p[i], levels[i], code[i] = x, list, at
			codes(t, p, levels, code, decoded, gapOf(x, list[at]))
		}
	}
}

func notCoded(t *testing.T, p []int64, levels [][]int64) {
	t.Helper()
	if g := impl.Coded(p, levels); len(g) != 0 {
		t.Fatalf("Coded(%v, %v) = %v", p, levels, g)
	}
	if g := impl.Off(p, levels); g != -1 {
		t.Fatalf("Off(%v, %v) = %d", p, levels, g)
	}
}

// notDecoded asks for the fixed answers where q would be right.
func notDecoded(t *testing.T, q, code []int64, levels [][]int64) {
	t.Helper()
	if g := impl.Decoded(code, levels); len(g) != 0 {
		t.Fatalf("Decoded(%v, %v) = %v", code, levels, g)
	}
	noSum(t, q, code, levels)
}

func noSum(t *testing.T, q, code []int64, levels [][]int64) {
	t.Helper()
	if g := impl.Sum(q, code, levels); g != -1 {
		t.Fatalf("Sum(%v, %v, %v) = %d", q, code, levels, g)
	}
}

func TestQuantOrdinary(t *testing.T) {
	two := [][]int64{{0, 4, 9}, {-3, 3}}
	even := evenLevels(mostLevels, -75, 10)
	for _, c := range []struct {
		p             []int64
		levels        [][]int64
		code, decoded []int64
		off           int64
	}{
		{[]int64{5}, [][]int64{{5}}, []int64{0}, []int64{5}, 0},
		{[]int64{-1000}, [][]int64{{1000}}, []int64{0}, []int64{1000}, 2000},
		{[]int64{6}, [][]int64{{0, 4, 9}}, []int64{1}, []int64{4}, 2},
		{[]int64{7}, [][]int64{{0, 4, 9}}, []int64{2}, []int64{9}, 2},
		{[]int64{2}, [][]int64{{0, 4, 9}}, []int64{0}, []int64{0}, 2},
		{[]int64{-20}, [][]int64{{-8, -4, 9}}, []int64{0}, []int64{-8}, 12},
		{[]int64{-6}, [][]int64{{-8, -4, 9}}, []int64{0}, []int64{-8}, 2},
		{[]int64{-5}, [][]int64{{-8, -4, 9}}, []int64{1}, []int64{-4}, 1},
		{[]int64{20}, [][]int64{{-8, -4, 9}}, []int64{2}, []int64{9}, 11},
		{[]int64{2, 0}, two, []int64{0, 0}, []int64{0, -3}, 5},
		{[]int64{9, 1}, two, []int64{2, 1}, []int64{9, 3}, 2},
		{[]int64{4, -3}, two, []int64{1, 0}, []int64{4, -3}, 0},
		{[]int64{-5, 50}, two, []int64{0, 1}, []int64{0, 3}, 52},
		{[]int64{100, -100}, two, []int64{2, 0}, []int64{9, -3}, 188},
		{[]int64{3, -1, 2}, [][]int64{{3}, {-5, 2}, {0, 1, 2, 3}}, []int64{0, 1, 2}, []int64{3, 2, 2}, 3},
		{[]int64{-70, 0, 69, 999}, [][]int64{even, even, even, even}, []int64{0, 7, 14, 15}, []int64{-75, -5, 65, 75}, 938},
		{[]int64{75, 76, -75, -76}, [][]int64{even, even, even, {-75, 75}}, []int64{15, 15, 0, 0}, []int64{75, 75, -75, -75}, 2},
	} {
		codes(t, c.p, c.levels, c.code, c.decoded, c.off)
	}
}

func TestSumOrdinary(t *testing.T) {
	two := [][]int64{{0, 4, 9}, {-3, 3}}
	for _, c := range []struct {
		q, code []int64
		levels  [][]int64
		sum     int64
	}{
		{[]int64{9, 0}, []int64{2, 1}, two, 3},
		{[]int64{0, 0}, []int64{0, 0}, two, 3},
		{[]int64{9, 3}, []int64{0, 0}, two, 15},
		{[]int64{-1000, 1000}, []int64{2, 0}, two, 2012},
		{[]int64{1000}, []int64{0}, [][]int64{{-1000, 1000}}, 2000},
		{[]int64{1000}, []int64{1}, [][]int64{{-1000, 1000}}, 0},
		{[]int64{1, 2, 3}, []int64{0, 1, 0}, [][]int64{{1}, {0, 5}, {-3}}, 9},
		{[]int64{1000, 1000, 1000, 1000}, []int64{0, 0, 0, 0}, [][]int64{{-1000}, {-1000}, {-1000}, {-1000}}, 8000},
		{[]int64{1, -2, 3, -4}, []int64{15, 0, 7, 8}, slices.Repeat([][]int64{evenLevels(mostLevels, 0, 1)}, 4), 32},
	} {
		if g := impl.Sum(c.q, c.code, c.levels); g != c.sum {
			t.Errorf("Sum(%v, %v, %v) = %d, not %d", c.q, c.code, c.levels, g, c.sum)
		}
	}
}

func TestQuantByItsWords(t *testing.T) {
	next := walkOf(131)
	for _, levels := range manyLevels() {
		for _, p := range pointsAbout(next, levels, 40) {
			code := codedIn(p, levels)
			decoded := decodedIn(code, levels)
			codes(t, p, levels, code, decoded, apart(p, decoded, impl.BySteps))
		}
		for _, code := range codesOf(next, levels) {
			decoded := decodedIn(code, levels)
			if g := impl.Decoded(code, levels); !slices.Equal(g, decoded) {
				t.Fatalf("Decoded(%v, %v) = %v, not %v", code, levels, g, decoded)
			}
			q := pointsAbout(next, levels, 1)[0]
			if g, want := impl.Sum(q, code, levels), apart(q, decoded, impl.BySteps); g != want {
				t.Fatalf("Sum(%v, %v, %v) = %d, not %d", q, code, levels, g, want)
			}
		}
	}
}

// All numbers that a point may have, with Levels of many kinds.
func TestCodedEachNumber(t *testing.T) {
	next, lists := walkOf(132), endLevels()
	for count := 1; count <= mostLevels; count++ {
		lists = append(lists, drawnLevels(next, count, -1000, 1000), drawnLevels(next, count, -20, 20))
	}
	for _, list := range lists {
		levels := [][]int64{list}
		for x := int64(-1000); x <= 1000; x++ {
			p := []int64{x}
			code := codedIn(p, levels)
			codes(t, p, levels, code, decodedIn(code, levels), gapOf(x, list[code[0]]))
		}
	}
}

// Promise 13: no Level of a number is nearer to it than what it is Coded as.
func TestNoLevelIsNearer(t *testing.T) {
	next := walkOf(133)
	var asked, alike int
	for _, levels := range manyLevels() {
		for _, p := range pointsAbout(next, levels, 40) {
			code := impl.Coded(p, levels)
			if len(code) != len(p) {
				t.Fatalf("Coded(%v, %v) = %v", p, levels, code)
			}
			for i, x := range p {
				gap := gapOf(x, levels[i][code[i]])
				for at, level := range levels[i] {
					asked++
					if gapOf(x, level) < gap {
						t.Fatalf("Coded(%v, %v) = %v: %d is nearer to %d", p, levels, code, level, x)
					}
					if gapOf(x, level) == gap && int64(at) != code[i] {
						alike++
						if int64(at) < code[i] {
							t.Fatalf("Coded(%v, %v) = %v: %d is as near to %d, and less", p, levels, code, level, x)
						}
					}
				}
			}
		}
	}
	if asked < 100000 || alike < 1000 {
		t.Errorf("%d asked, %d of them alike", asked, alike)
	}
}

// Promise 13, of whole points: no code is nearer than that of the point, whose
// Sum is Off.
func TestNoCodeIsNearer(t *testing.T) {
	next := walkOf(134)
	for _, levels := range manyLevels() {
		all := codesOf(next, levels)
		for _, p := range pointsAbout(next, levels, 8) {
			code, off := impl.Coded(p, levels), impl.Off(p, levels)
			if g := impl.Sum(p, code, levels); g != off || off < 0 {
				t.Fatalf("Sum(%v, %v, %v) = %d, Off %d", p, code, levels, g, off)
			}
			for _, other := range all {
				if g := impl.Sum(p, other, levels); g < off {
					t.Fatalf("Off(%v, %v) = %d, but Sum of %v is %d", p, levels, off, other, g)
				}
			}
		}
	}
}

// Promise 13: Steps of q and p, and Sum of q and Coded of p, differ by no more
// than Off of p. Both ways, and by just that where it may be.
func TestDistancesAreOffByNoMore(t *testing.T) {
	next := walkOf(135)
	var more, less, just, exact int
	for _, levels := range manyLevels() {
		points := pointsAbout(next, levels, 16)
		for _, p := range points {
			code, off := impl.Coded(p, levels), impl.Off(p, levels)
			for _, q := range points {
				steps, sum := impl.Steps(q, p), impl.Sum(q, code, levels)
				if off < 0 || sum < 0 || gapOf(steps, sum) > off {
					t.Fatalf("Steps(%v, %v) = %d, Sum with %v of %v = %d: off by more than %d", q, p, steps, code, levels, sum, off)
				}
				switch {
				case sum > steps:
					more++
				case sum < steps:
					less++
				case off > 0:
					exact++
				}
				if off > 0 && gapOf(steps, sum) == off {
					just++
				}
			}
		}
	}
	if more < 10000 || less < 10000 || just < 10000 || exact < 100 {
		t.Errorf("%d more, %d less, %d by just Off, %d by nothing", more, less, just, exact)
	}
}

// The same of all points of few numbers, and all of one number.
func TestDistancesAreOffByNoMoreEach(t *testing.T) {
	offByNoMore := func(points [][]int64, levels [][]int64) {
		t.Helper()
		for _, p := range points {
			code, off := impl.Coded(p, levels), impl.Off(p, levels)
			for _, q := range points {
				if g := impl.Sum(q, code, levels); g < 0 || gapOf(g, impl.Steps(q, p)) > off {
					t.Fatalf("Sum(%v, %v, %v) = %d, Steps from %v %d, Off %d", q, code, levels, g, p, impl.Steps(q, p), off)
				}
			}
		}
	}
	for _, list := range endLevels() {
		for n := 1; n <= 4; n++ {
			offByNoMore(allOf(n, -1000, -5, 3, 1000), slices.Repeat([][]int64{list}, n))
		}
		offByNoMore(allOfOne(evenLevels(251, -1000, 8)), [][]int64{list})
		offByNoMore(allOfOne(evenLevels(41, -20, 1)), [][]int64{list})
	}
}

// Promise 13 could tell no less than Off: from the point itself, and from what
// it is Decoded as, distances are off by just that.
func TestOffIsMet(t *testing.T) {
	next := walkOf(136)
	for _, levels := range manyLevels() {
		for _, p := range pointsAbout(next, levels, 10) {
			code, off := impl.Coded(p, levels), impl.Off(p, levels)
			if g := impl.Sum(p, code, levels) - impl.Steps(p, p); g != off {
				t.Fatalf("from %v itself Sum of %v is off by %d, not %d", p, levels, g, off)
			}
			decoded := impl.Decoded(code, levels)
			if g := impl.Steps(decoded, p) - impl.Sum(decoded, code, levels); g != off {
				t.Fatalf("from %v Sum of %v is off by %d, not %d", decoded, levels, g, off)
			}
		}
	}
}

// What lies on Levels is Coded without a loss, and each code comes back.
func TestCodedOfDecoded(t *testing.T) {
	next := walkOf(137)
	for _, levels := range manyLevels() {
		for _, code := range codesOf(next, levels) {
			p := impl.Decoded(code, levels)
			if !impl.PointOk(p) || len(p) != len(levels) {
				t.Fatalf("Decoded(%v, %v) = %v", code, levels, p)
			}
			codes(t, p, levels, code, p, 0)
		}
	}
}

// Decoded of Coded is the point where it lies on Levels, and only there; and
// Coded again it is the same.
func TestDecodedOfCoded(t *testing.T) {
	next := walkOf(138)
	var on, beside int
	for _, levels := range manyLevels() {
		for _, p := range pointsAbout(next, levels, 20) {
			code := impl.Coded(p, levels)
			decoded, onLevels := impl.Decoded(code, levels), true
			for i, x := range p {
				onLevels = onLevels && slices.Contains(levels[i], x)
			}
			if slices.Equal(decoded, p) != onLevels || (impl.Off(p, levels) == 0) != onLevels {
				t.Fatalf("%v of %v: %v, Off %d", p, levels, decoded, impl.Off(p, levels))
			}
			if g := impl.Coded(decoded, levels); !slices.Equal(g, code) {
				t.Fatalf("Coded(%v, %v) = %v, not %v as of %v", decoded, levels, g, code, p)
			}
			if onLevels {
				on++
			} else {
				beside++
			}
		}
	}
	if on < 500 || beside < 5000 {
		t.Errorf("%d on Levels, %d beside", on, beside)
	}
}

// Just in the middle of two Levels it is the less, one beyond it the other.
func TestCodedInTheMiddle(t *testing.T) {
	for _, low := range []int64{-1000, -999, -501, -8, -7, -2, -1, 0, 1, 2, 7, 8, 500, 980} {
		for _, wide := range []int64{1, 2, 3, 4, 5, 6, 7, 8, 19, 20} {
			high := low + wide
			for x := max(low-2, -1000); x <= min(high+2, 1000); x++ {
				at := int64(0)
				if high-x < x-low {
					at = 1
				}
				codesInEach(t, x, []int64{low, high}, at)
			}
		}
	}
	for _, c := range []struct {
		x    int64
		list []int64
		at   int64
	}{
		{0, []int64{-1000, 1000}, 0}, {1, []int64{-1000, 1000}, 1}, {-1, []int64{-1000, 1000}, 0},
		{-500, []int64{-1000, 0, 1000}, 0}, {-499, []int64{-1000, 0, 1000}, 1}, {500, []int64{-1000, 0, 1000}, 1}, {501, []int64{-1000, 0, 1000}, 2},
		{0, []int64{-1, 1}, 0}, {0, []int64{-2, 1}, 1}, {0, []int64{-1, 2}, 0}, {-1, []int64{-2, 0, 2}, 0}, {1, []int64{-2, 0, 2}, 1},
		{-3, []int64{-4, -2}, 0}, {-3, []int64{-5, -2}, 1}, {-4, []int64{-5, -2}, 0},
	} {
		codesInEach(t, c.x, c.list, c.at)
	}
	// In the middle of each two of as many as there may be.
	for _, apart := range []int64{2, 6, 132} {
		list := evenLevels(mostLevels, -990, apart)
		for at := range int64(mostLevels - 1) {
			middle := list[at] + apart/2
			codesInEach(t, middle, list, at)
			codesInEach(t, middle-1, list, at)
			codesInEach(t, middle+1, list, at+1)
		}
	}
}

// A number below the least Level is Coded as that, one above the greatest as
// that; one Level takes all.
func TestCodedBeyondTheLevels(t *testing.T) {
	for _, list := range endLevels() {
		last := int64(len(list) - 1)
		for _, x := range []int64{-1000, list[0] - 77, list[0] - 2, list[0] - 1, list[0]} {
			if x >= -1000 {
				codesInEach(t, x, list, 0)
			}
		}
		for _, x := range []int64{list[last], list[last] + 1, list[last] + 2, list[last] + 77, 1000} {
			if x <= 1000 {
				codesInEach(t, x, list, last)
			}
		}
	}
	for _, only := range []int64{-1000, -1, 0, 13, 1000} {
		for _, x := range []int64{-1000, -999, -1, 0, 1, 999, 1000} {
			codesInEach(t, x, []int64{only}, 0)
		}
	}
}

// Levels of another number have no say: a point of one list in each place is
// Coded number by number.
func TestCodedNumberByNumber(t *testing.T) {
	next := walkOf(139)
	for _, levels := range manyLevels() {
		for _, p := range pointsAbout(next, levels, 10) {
			code, off := []int64{}, int64(0)
			for i, x := range p {
				code = append(code, impl.Coded([]int64{x}, levels[i:i+1])...)
				off += impl.Off([]int64{x}, levels[i:i+1])
			}
			if g := impl.Coded(p, levels); !slices.Equal(g, code) {
				t.Fatalf("Coded(%v, %v) = %v, not %v", p, levels, g, code)
			}
			if g := impl.Off(p, levels); g != off {
				t.Fatalf("Off(%v, %v) = %d, not %d", p, levels, g, off)
			}
		}
	}
}

func TestLevelsOkRight(t *testing.T) {
	for _, levels := range manyLevels() {
		if !impl.LevelsOk(levels) || !levelsIn(levels) {
			t.Fatalf("LevelsOk(%v) is %t", levels, impl.LevelsOk(levels))
		}
	}
	for n := 1; n <= 4; n++ {
		for count := 1; count <= mostLevels; count++ {
			for _, first := range []int64{-1000, 0, 1001 - int64(count)} {
				levels := slices.Repeat([][]int64{evenLevels(count, first, 1)}, n)
				if !impl.LevelsOk(levels) {
					t.Errorf("LevelsOk(%v) is false", levels)
				}
			}
		}
	}
}

// noScales are lists that are no Levels of a number.
func noScales() [][]int64 {
	lists := [][]int64{
		nil, {}, make([]int64, 0, 9),
		{-1001}, {1001}, {-1002}, {1002}, {1 << 32}, {-1 << 32}, {least}, {least + 1}, {greatest}, {greatest - 1},
		{-1001, 0}, {-1001, -1000}, {0, 1001}, {1000, 1001}, {-1000, 0, 1001}, {-1001, 0, 1000}, {least, 0}, {0, greatest}, {least, greatest}, {greatest, least}, {-1, greatest, 1}, {0, least, 1},
		{0, 0}, {1, 0}, {-1000, -1000}, {1000, 1000}, {1000, -1000}, {0, 1, 1}, {0, 0, 1}, {0, 2, 1}, {2, 0, 1}, {1, 2, 0}, {3, 2, 1}, {0, 1, 0}, {-1, -1}, {-1, -2},
	}
	for _, count := range []int{mostLevels + 1, mostLevels + 2, 32, 60, 100, 2001} {
		lists = append(lists, evenLevels(count, -1000, 1), make([]int64, count))
	}
	lists = append(lists, evenLevels(mostLevels+1, -1000, 125), evenLevels(mostLevels, -1001, 1), evenLevels(mostLevels, 986, 1), evenLevels(272, -9, 1))
	full := evenLevels(mostLevels, -1000, 133)
	for i := range mostLevels {
		lists = append(lists, with(full, i, -1001), with(full, i, 1001), with(full, i, least), with(full, i, greatest))
		if i > 0 {
			lists = append(lists, with(full, i, full[i-1]), with(full, i, full[i-1]-1), with(full, i, full[0]), with(full, i-1, full[i]), with(full, i-1, full[i]+1))
		}
	}
	return lists
}

// noLevels asks all functions for their fixed answers, with points and codes
// that would be right.
func noLevels(t *testing.T, levels [][]int64) {
	t.Helper()
	if impl.LevelsOk(levels) {
		t.Fatalf("LevelsOk(%v) is true", levels)
	}
	for n := range 7 {
		p := make([]int64, n)
		notCoded(t, p, levels)
		notDecoded(t, p, p, levels)
	}
}

// A wrong list is refused in each place, also beside another wrong one.
func TestLevelsWrong(t *testing.T) {
	next := walkOf(140)
	for _, wrong := range noScales() {
		for n := 1; n <= 4; n++ {
			for i := range n {
				levels := [][]int64{}
				for range n {
					levels = append(levels, drawnLevels(next, 1+int(next(mostLevels)), -1000, 1000))
				}
				levels[i] = wrong
				noLevels(t, levels)
			}
			noLevels(t, slices.Repeat([][]int64{wrong}, n))
		}
	}
}

func TestHowManyLevels(t *testing.T) {
	for _, none := range [][][]int64{nil, {}, make([][]int64, 0, 4)} {
		noLevels(t, none)
	}
	for _, many := range []int{5, 6, 8, 16, 60, 260} {
		for _, list := range [][]int64{{0}, {-1, 0, 1}, evenLevels(mostLevels, 0, 1)} {
			levels := slices.Repeat([][]int64{list}, many)
			noLevels(t, levels)
			p := make([]int64, many)
			notCoded(t, p, levels)
			notDecoded(t, p, p, levels)
			notCoded(t, p[:4], levels)
			notDecoded(t, p[:4], p[:4], levels)
		}
	}
}

// Lists drawn near to what is right: some are, some are not.
func TestLevelsOkByItsWords(t *testing.T) {
	next := walkOf(141)
	right, wrong := 0, 0
	for range 20000 {
		levels := [][]int64{}
		for range next(6) {
			list := drawnLevels(next, int(next(mostLevels+2)), -1000, 1000)
			if len(list) > 0 && next(6) == 0 {
				list[next(int64(len(list)))] = next(2005) - 1002
			}
			levels = append(levels, list)
		}
		want := levelsIn(levels)
		if impl.LevelsOk(levels) != want {
			t.Fatalf("LevelsOk(%v) is %t", levels, !want)
		}
		if want {
			right++
		} else {
			wrong++
		}
	}
	if right < 1000 || wrong < 1000 {
		t.Errorf("%d right, %d wrong", right, wrong)
	}
}

// Points that are none, or not as long as there are lists, are refused; what
// is Decoded has no say in that.
func TestQuantWrongPoint(t *testing.T) {
	next := walkOf(142)
	for n := 1; n <= 4; n++ {
		for range 10 {
			levels, code := [][]int64{}, []int64{}
			for range n {
				list := drawnLevels(next, 1+int(next(mostLevels)), -1000, 1000)
				levels, code = append(levels, list), append(code, next(int64(len(list))))
			}
			for _, p := range noPlaces(n) {
				notCoded(t, p, levels)
				noSum(t, p, code, levels)
			}
			if g := impl.Decoded(code, levels); !slices.Equal(g, decodedIn(code, levels)) {
				t.Errorf("Decoded(%v, %v) = %v", code, levels, g)
			}
		}
	}
}

// A code that names no Level in one place, or has a number too many or too
// few, is refused, however long the point is.
func TestQuantWrongCode(t *testing.T) {
	next := walkOf(143)
	for _, levels := range manyLevels() {
		n := len(levels)
		q, code := pointAndCode(next, levels)
		for i, list := range levels {
			last := with(code, i, int64(len(list)-1))
			if g := impl.Decoded(last, levels); !slices.Equal(g, decodedIn(last, levels)) {
				t.Fatalf("Decoded(%v, %v) = %v", last, levels, g)
			}
			for _, at := range notNamed(len(list)) {
				notDecoded(t, q, with(code, i, at), levels)
			}
		}
		for other := range 7 {
			if other != n {
				notDecoded(t, q, make([]int64, other), levels)
				notDecoded(t, make([]int64, other), make([]int64, other), levels)
				noSum(t, make([]int64, other), code, levels)
			}
		}
		notDecoded(t, q, nil, levels)
		notDecoded(t, nil, nil, levels)
		notDecoded(t, q, make([]int64, 1000), levels)
		notDecoded(t, q, append(slices.Clone(code), 0), levels)
		notDecoded(t, q, code[:n-1], levels)
	}
}

// quantStays asks all functions, writes over what they answer, and looks
// whether an argument, or the room behind it, has changed.
func quantStays(t *testing.T, p, code []int64, levels [][]int64) {
	t.Helper()
	ownP, wholeP := roomy(p)
	ownCode, wholeCode := roomy(code)
	own, look := roomyCenters(levels)
	kept := slices.Concat(wholeP, wholeCode, look())
	impl.LevelsOk(own)
	spoilNumbers(impl.Coded(ownP, own))
	spoilNumbers(impl.Decoded(ownCode, own))
	impl.Off(ownP, own)
	impl.Sum(ownP, ownCode, own)
	if !slices.Equal(slices.Concat(wholeP, wholeCode, look()), kept) {
		t.Fatalf("%v, %v, %v became %v, %v, %v", p, code, levels, ownP, ownCode, own)
	}
}

func TestQuantArgumentsStay(t *testing.T) {
	next := walkOf(144)
	for _, levels := range manyLevels() {
		n := len(levels)
		p, code := pointAndCode(next, levels)
		quantStays(t, p, code, levels)
		quantStays(t, p, with(code, n-1, -1), levels)
		quantStays(t, p, with(code, 0, mostLevels), levels)
		quantStays(t, p[:n-1], code[:n-1], levels)
		quantStays(t, p, code, levels[:n-1])
		quantStays(t, append(slices.Clone(p), 0), append(slices.Clone(code), 0), levels)
		quantStays(t, with(p, 0, 1001), code, levels)
	}
	for _, wrong := range noScales() {
		quantStays(t, []int64{1}, []int64{0}, [][]int64{wrong})
		quantStays(t, []int64{1, 2}, []int64{0, 0}, [][]int64{{0, 1}, wrong})
	}
	for _, wrong := range noPoints() {
		quantStays(t, wrong, wrong, [][]int64{{0, 1}, {2}})
		quantStays(t, wrong, nil, nil)
	}
	quantStays(t, make([]int64, 5), make([]int64, 5), slices.Repeat([][]int64{{0}}, 5))
}

// What is written over arguments or another answer changes no answer.
func TestQuantAnswersAreNew(t *testing.T) {
	next := walkOf(145)
	for _, levels := range manyLevels() {
		p, code := pointAndCode(next, levels)
		ownP, _ := roomy(p)
		ownCode, _ := roomy(code)
		own, _ := roomyCenters(levels)
		coded, decoded := impl.Coded(ownP, own), impl.Decoded(ownCode, own)
		spoilNumbers(impl.Coded(ownP, own))
		spoilNumbers(impl.Decoded(ownCode, own))
		spoilNumbers(ownP)
		spoilNumbers(ownCode)
		spoilLists(own)
		if !slices.Equal(coded, codedIn(p, levels)) || !slices.Equal(decoded, decodedIn(code, levels)) {
			t.Fatalf("of %v, %v and %v they became %v and %v", p, code, levels, coded, decoded)
		}
	}
}

// Point, code and Levels may be one memory: none is written into, and what is
// answered is none of it.
func TestQuantOfOneMemory(t *testing.T) {
	for n := 1; n <= 4; n++ {
		one, whole := roomy(evenLevels(n, 0, 1))
		kept := slices.Clone(whole)
		levels := slices.Repeat([][]int64{one}, n)
		for range 2 {
			codes(t, one, levels, one, one, 0)
			spoilNumbers(impl.Coded(one, levels))
			spoilNumbers(impl.Decoded(one, levels))
			if !slices.Equal(whole, kept) {
				t.Fatalf("%v became %v", kept, whole)
			}
		}
	}
}
