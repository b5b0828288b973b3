package tests

import (
	"slices"
	"testing"

	"loop.example/g00273/impl"
)

// mostCenters is how many centers chapter 10 allows.
const mostCenters = 8

// givenIn is Given by the document's words.
func givenIn(list []impl.Mark, centers [][]int64) []int64 {
	given := []int64{}
	for _, m := range list {
		fars := []int64{}
		for _, c := range centers {
			fars = append(fars, apart(m.At, c, impl.ByFar))
		}
		given = append(given, int64(slices.Index(fars, slices.Min(fars))))
	}
	return given
}

// costIn is Cost by the document's words.
func costIn(list []impl.Mark, centers [][]int64) int64 {
	cost := int64(0)
	for i, n := range givenIn(list, centers) {
		cost += apart(list[i].At, centers[n], impl.ByFar)
	}
	return cost
}

// meanIn looks at all numbers that a point may have, the least first.
func meanIn(numbers []int64) int64 {
	best, cheapest := int64(0), int64(greatest)
	for x := int64(-impl.MaxAt); x <= impl.MaxAt; x++ {
		cost := int64(0)
		for _, y := range numbers {
			cost += (x - y) * (x - y)
		}
		if cost < cheapest {
			best, cheapest = x, cost
		}
	}
	return best
}

// shiftedIn is Shifted by the document's words.
func shiftedIn(list []impl.Mark, centers [][]int64) [][]int64 {
	given, all := givenIn(list, centers), [][]int64{}
	for n, c := range centers {
		shifted := slices.Clone(c)
		for k := range c {
			numbers := []int64{}
			for i, m := range list {
				if given[i] == int64(n) {
					numbers = append(numbers, m.At[k])
				}
			}
			if len(numbers) > 0 {
				shifted[k] = meanIn(numbers)
			}
		}
		all = append(all, shifted)
	}
	return all
}

func copyLists(lists [][]int64) [][]int64 {
	all := make([][]int64, len(lists))
	for i, list := range lists {
		all[i] = slices.Clone(list)
	}
	return all
}

// someCenters has count right centers of n numbers: some where a mark is,
// some beside one, some where another center is, some anywhere.
func someCenters(next func(int64) int64, list []impl.Mark, count, n int) [][]int64 {
	centers := [][]int64{}
	for range count {
		c := make([]int64, n)
		for i := range c {
			c[i] = next(2001) - 1000
		}
		way := next(5)
		if way < 3 && len(list) > 0 {
			copy(c, list[next(int64(len(list)))].At)
		}
		if way == 1 || way == 2 {
			i := next(int64(n))
			c[i] = min(max(c[i]+next(7)-3, -1000), 1000)
		}
		if way == 3 && len(centers) > 0 {
			copy(c, centers[next(int64(len(centers)))])
		}
		centers = append(centers, c)
	}
	return centers
}

// meansCase is marks and centers, both right.
type meansCase struct {
	list    []impl.Mark
	centers [][]int64
}

// manyMeans has marks of all kinds with one center up to eight.
func manyMeans() []meansCase {
	next, cases := walkOf(10), []meansCase{}
	for _, list := range eachMarks() {
		for count := 1; count <= mostCenters; count++ {
			n := long(list)
			if len(list) == 0 {
				n = 1 + int(next(4))
			}
			cases = append(cases, meansCase{list, someCenters(next, list, count, n)})
		}
	}
	return cases
}

// means asks all four functions for what they are to answer.
func means(t *testing.T, list []impl.Mark, centers [][]int64, given []int64, cost int64, shifted [][]int64) {
	t.Helper()
	if g := impl.Given(list, centers); !slices.Equal(g, given) {
		t.Errorf("Given(%v, %v) = %v, not %v", list, centers, g, given)
	}
	if g := impl.Cost(list, centers); g != cost {
		t.Errorf("Cost(%v, %v) = %d, not %d", list, centers, g, cost)
	}
	if g := impl.Shifted(list, centers); !sameCells(g, shifted) {
		t.Errorf("Shifted(%v, %v) = %v, not %v", list, centers, g, shifted)
	}
	still := sameCells(shifted, centers)
	if g := impl.Still(list, centers); g != still {
		t.Errorf("Still(%v, %v) is %t, not %t", list, centers, g, still)
	}
}

// noMeans asks all four functions for their fixed answers.
func noMeans(t *testing.T, list []impl.Mark, centers [][]int64) {
	t.Helper()
	if g := impl.Given(list, centers); len(g) != 0 {
		t.Errorf("Given(%v, %v) = %v", list, centers, g)
	}
	if g := impl.Cost(list, centers); g != -1 {
		t.Errorf("Cost(%v, %v) = %d", list, centers, g)
	}
	if g := impl.Shifted(list, centers); len(g) != 0 {
		t.Errorf("Shifted(%v, %v) = %v", list, centers, g)
	}
	if impl.Still(list, centers) {
		t.Errorf("Still(%v, %v) is true", list, centers)
	}
}

// lineMeans is of marks and centers of one number.
func lineMeans(t *testing.T, numbers, centers, given []int64, cost int64, shifted []int64) {
	t.Helper()
	means(t, axisMarks(1, 0, numbers...), allOfOne(centers), given, cost, allOfOne(shifted))
}

// allOfOne has a point of one number for each of them.
func allOfOne(numbers []int64) [][]int64 {
	all := [][]int64{}
	for _, x := range numbers {
		all = append(all, []int64{x})
	}
	return all
}

func TestMeansOrdinary(t *testing.T) {
	for _, c := range []struct {
		numbers, centers, given []int64
		cost                    int64
		shifted                 []int64
	}{
		// One mark.
		{[]int64{7}, []int64{7}, []int64{0}, 0, []int64{7}},
		{[]int64{7}, []int64{5}, []int64{0}, 4, []int64{7}},
		{[]int64{7}, []int64{5, 8}, []int64{1}, 1, []int64{5, 7}},
		// More of them, and one center.
		{[]int64{0, 10}, []int64{5}, []int64{0, 0}, 50, []int64{5}},
		{[]int64{0, 10}, []int64{0}, []int64{0, 0}, 100, []int64{5}},
		{[]int64{1, 2, 6}, []int64{0}, []int64{0, 0, 0}, 41, []int64{3}},
		{[]int64{1, 1, 2}, []int64{0}, []int64{0, 0, 0}, 6, []int64{1}},
		{[]int64{1, 2, 2}, []int64{0}, []int64{0, 0, 0}, 9, []int64{2}},
		// Some centers.
		{[]int64{0, 10}, []int64{0, 10}, []int64{0, 1}, 0, []int64{0, 10}},
		{[]int64{0, 10}, []int64{10, 0}, []int64{1, 0}, 0, []int64{10, 0}},
		{[]int64{0, 1, 2, 9, 10, 14}, []int64{0, 10}, []int64{0, 0, 0, 1, 1, 1}, 22, []int64{1, 11}},
		{[]int64{9, 0, 14, 2, 10, 1}, []int64{10, 0}, []int64{0, 1, 0, 1, 0, 1}, 22, []int64{11, 1}},
		{[]int64{-8, -1, 1, 2, 30}, []int64{-9, 0, 20}, []int64{0, 1, 1, 1, 2}, 107, []int64{-8, 1, 30}},
		{[]int64{0, 1, 2, 3, 4, 5, 6, 7}, []int64{7, 6, 5, 4, 3, 2, 1, 0}, []int64{7, 6, 5, 4, 3, 2, 1, 0}, 0, []int64{7, 6, 5, 4, 3, 2, 1, 0}},
	} {
		lineMeans(t, c.numbers, c.centers, c.given, c.cost, c.shifted)
	}
}

func TestMeansOrdinaryOfMoreNumbers(t *testing.T) {
	two := []impl.Mark{{Id: 1, At: []int64{0, 0}}, {Id: 2, At: []int64{3, 4}}, {Id: 3, At: []int64{1, 0}}, {Id: 5, At: []int64{9, 9}}}
	means(t, two, [][]int64{{0, 0}, {9, 8}}, []int64{0, 0, 0, 1}, 27, [][]int64{{1, 1}, {9, 9}})
	means(t, two, [][]int64{{1, 1}, {9, 9}}, []int64{0, 0, 0, 1}, 16, [][]int64{{1, 1}, {9, 9}})
	means(t, two, [][]int64{{9, 8}, {4, 4}, {0, 0}}, []int64{2, 1, 2, 0}, 3, [][]int64{{9, 9}, {3, 4}, {0, 0}})
	three := []impl.Mark{{Id: 7, At: []int64{1, -2, 3}}, {Id: 8, At: []int64{5, -6, 10}}, {Id: 1000000, At: []int64{0, -1, 2}}}
	means(t, three, [][]int64{{0, 0, 0}}, []int64{0, 0, 0}, 180, [][]int64{{2, -3, 5}})
	means(t, three, [][]int64{{5, -6, 9}, {0, 0, 0}}, []int64{1, 0, 1}, 20, [][]int64{{5, -6, 10}, {0, -2, 2}})
	four := []impl.Mark{{Id: 1, At: []int64{1, 2, 3, 4}}, {Id: 2, At: []int64{-1, -2, -3, -4}}, {Id: 3, At: []int64{1, 2, 3, 6}}}
	means(t, four, [][]int64{{0, 0, 0, 0}}, []int64{0, 0, 0}, 110, [][]int64{{0, 1, 1, 2}})
	means(t, four, [][]int64{{-2, -2, -2, -2}, {2, 2, 2, 2}}, []int64{1, 0, 1}, 30, [][]int64{{-1, -2, -3, -4}, {1, 2, 3, 5}})
}

// Of no marks none is given, nothing is paid, and all centers stay.
func TestMeansOfNoMarks(t *testing.T) {
	next := walkOf(101)
	for _, none := range [][]impl.Mark{nil, {}, make([]impl.Mark, 0, 5)} {
		for n := 1; n <= 4; n++ {
			for count := 1; count <= mostCenters; count++ {
				centers := someCenters(next, nil, count, n)
				means(t, none, centers, nil, 0, centers)
			}
		}
	}
}

func TestMeansByTheirWords(t *testing.T) {
	var still, full int
	for _, c := range manyMeans() {
		shifted := shiftedIn(c.list, c.centers)
		means(t, c.list, c.centers, givenIn(c.list, c.centers), costIn(c.list, c.centers), shifted)
		if t.Failed() {
			return
		}
		if len(c.list) > 0 && sameCells(shifted, c.centers) {
			still++
		}
		if len(c.list) == impl.MaxMarks {
			full++
		}
	}
	if still < 10 || full < 50 {
		t.Errorf("%d are still, %d are full", still, full)
	}
}

// Promise 10: Shifted costs no more; where Still is true Shifted gives the
// centers as they are, and it is true of what stays. What costs as much has
// no number that became more, so that going on comes to an end.
func TestLloyd(t *testing.T) {
	var less, alike, ends int
	for _, c := range manyMeans() {
		centers := c.centers
		for turn := 0; ; turn++ {
			cost, shifted := impl.Cost(c.list, centers), impl.Shifted(c.list, centers)
			after := impl.Cost(c.list, shifted)
			if len(shifted) != len(centers) || cost < 0 || after < 0 || after > cost {
				t.Fatalf("%v cost %d for %v; shifted, %v, %d", centers, cost, c.list, shifted, after)
			}
			stays := sameCells(shifted, centers)
			if impl.Still(c.list, centers) != stays {
				t.Fatalf("Still(%v, %v) is %t, but shifted they are %v", c.list, centers, !stays, shifted)
			}
			if stays {
				ends++
				break
			}
			if after < cost {
				less++
			} else {
				alike++
				noneGrew(t, centers, shifted)
			}
			if turn > 500 {
				t.Fatalf("%v do not come to an end for %v", c.centers, c.list)
			}
			centers = shifted
		}
	}
	if less < 1000 || alike < 5 || ends < 1000 {
		t.Errorf("%d cost less, %d cost as much, %d came to an end", less, alike, ends)
	}
}

func noneGrew(t *testing.T, centers, shifted [][]int64) {
	t.Helper()
	for i, c := range centers {
		for k, x := range c {
			if shifted[i][k] > x {
				t.Fatalf("%v became %v for as much", centers, shifted)
			}
		}
	}
}

// sumOfFar is what a center costs with the marks given to it.
func sumOfFar(list []impl.Mark, given []int64, number int64, center []int64) int64 {
	sum := int64(0)
	for i, m := range list {
		if given[i] == number {
			sum += impl.Far(m.At, center)
		}
	}
	return sum
}

// Promise 10: no point beside a shifted center costs less with what was
// given to the center, and none that is less in a number costs as much.
func TestShiftedIsTheLeast(t *testing.T) {
	for _, c := range manyMeans() {
		given := impl.Given(c.list, c.centers)
		for i, center := range impl.Shifted(c.list, c.centers) {
			if !slices.Contains(given, int64(i)) {
				continue
			}
			if !impl.PointOk(center) || len(center) != len(c.centers[i]) {
				t.Fatalf("Shifted(%v, %v) has %v", c.list, c.centers, center)
			}
			sum := sumOfFar(c.list, given, int64(i), center)
			for k, x := range center {
				if x > -impl.MaxAt && sumOfFar(c.list, given, int64(i), with(center, k, x-1)) <= sum {
					t.Fatalf("Shifted(%v, %v): %v costs more than one less under %d", c.list, c.centers, center, k)
				}
				if x < impl.MaxAt && sumOfFar(c.list, given, int64(i), with(center, k, x+1)) < sum {
					t.Fatalf("Shifted(%v, %v): %v costs more than one more under %d", c.list, c.centers, center, k)
				}
			}
		}
	}
}

// No center is nearer to a mark than the one to which it is given, none ahead
// of that is as near, and Cost is the sum of what is left.
func TestGivenIsTheNearest(t *testing.T) {
	alike := 0
	for _, c := range manyMeans() {
		given, cost := impl.Given(c.list, c.centers), int64(0)
		if len(given) != len(c.list) {
			t.Fatalf("Given(%v, %v) = %v", c.list, c.centers, given)
		}
		for i, m := range c.list {
			own := impl.Far(m.At, c.centers[given[i]])
			for n, center := range c.centers {
				far := impl.Far(m.At, center)
				if far < own || far == own && int64(n) < given[i] {
					t.Fatalf("Given(%v, %v) = %v: %d is nearer to %d", c.list, c.centers, given, n, i)
				}
				if far == own && int64(n) > given[i] {
					alike++
				}
			}
			cost += own
		}
		if g := impl.Cost(c.list, c.centers); g != cost {
			t.Fatalf("Cost(%v, %v) = %d, not %d", c.list, c.centers, g, cost)
		}
	}
	if alike < 1000 {
		t.Errorf("only %d centers were as near as the one to which a mark was given", alike)
	}
}

// Of centers with alike Far it is the first.
func TestGivenOfAlikeOnes(t *testing.T) {
	for _, c := range []struct {
		numbers, centers, given []int64
		cost                    int64
		shifted                 []int64
	}{
		// It lies in the middle between two.
		{[]int64{5}, []int64{0, 10}, []int64{0}, 25, []int64{5, 10}},
		{[]int64{5}, []int64{10, 0}, []int64{0}, 25, []int64{5, 0}},
		{[]int64{-5}, []int64{-10, 0}, []int64{0}, 25, []int64{-5, 0}},
		{[]int64{-5}, []int64{0, -10}, []int64{0}, 25, []int64{-5, -10}},
		{[]int64{0}, []int64{1000, -1000}, []int64{0}, 1000000, []int64{0, -1000}},
		{[]int64{0}, []int64{-1000, 1000}, []int64{0}, 1000000, []int64{0, 1000}},
		// One that is nearer is behind them, ahead of them, or between.
		{[]int64{5}, []int64{0, 10, 4}, []int64{2}, 1, []int64{0, 10, 5}},
		{[]int64{5}, []int64{4, 0, 10}, []int64{0}, 1, []int64{5, 0, 10}},
		{[]int64{5}, []int64{0, 4, 10, 6}, []int64{1}, 1, []int64{0, 5, 10, 6}},
		// The centers are alike.
		{[]int64{1, 2, 6}, []int64{3, 3}, []int64{0, 0, 0}, 14, []int64{3, 3}},
		{[]int64{1, 2, 6}, []int64{10, 3, 3, 3}, []int64{1, 1, 1}, 14, []int64{10, 3, 3, 3}},
		{[]int64{1, 2, 6}, []int64{9, 3, 3, 3}, []int64{1, 1, 0}, 14, []int64{6, 1, 3, 3}},
		{[]int64{1, 2}, []int64{0, 0, 0, 0, 0, 0, 0, 0}, []int64{0, 0}, 5, []int64{1, 0, 0, 0, 0, 0, 0, 0}},
	} {
		lineMeans(t, c.numbers, c.centers, c.given, c.cost, c.shifted)
	}
	// Three about one mark, alike far in one number of it or in another.
	for n := 1; n <= 4; n++ {
		mark := []impl.Mark{{Id: 3, At: make([]int64, n)}}
		for i := range n {
			for j := range n {
				centers := [][]int64{with(make([]int64, n), i, 3), with(make([]int64, n), j, -3), with(make([]int64, n), i, -3)}
				means(t, mark, centers, []int64{0}, 9, [][]int64{make([]int64, n), centers[1], centers[2]})
			}
		}
	}
}

// A mean that lies between two numbers alike near is the less one.
func TestShiftedBetweenTwo(t *testing.T) {
	for _, c := range []struct{ numbers, want []int64 }{
		{[]int64{0, 1}, []int64{0}}, {[]int64{1, 2}, []int64{1}}, {[]int64{2, 3}, []int64{2}}, {[]int64{0, 3}, []int64{1}},
		{[]int64{0, -1}, []int64{-1}}, {[]int64{-1, -2}, []int64{-2}}, {[]int64{-2, -3}, []int64{-3}}, {[]int64{0, -3}, []int64{-2}},
		{[]int64{-1, 2}, []int64{0}}, {[]int64{1, -2}, []int64{-1}}, {[]int64{-4, 5}, []int64{0}}, {[]int64{4, -5}, []int64{-1}},
		{[]int64{999, 1000}, []int64{999}}, {[]int64{-999, -1000}, []int64{-1000}}, {[]int64{-1000, 1000}, []int64{0}}, {[]int64{-1000, 999}, []int64{-1}}, {[]int64{-999, 1000}, []int64{0}},
		{[]int64{0, 0, 1, 1}, []int64{0}}, {[]int64{0, 0, 0, 2}, []int64{0}}, {[]int64{0, 0, 0, -2}, []int64{-1}}, {[]int64{-1, -1, -2, -2}, []int64{-2}},
		// A little less or more than a half.
		{[]int64{0, 0, 1}, []int64{0}}, {[]int64{0, 1, 1}, []int64{1}}, {[]int64{0, 0, -1}, []int64{0}}, {[]int64{0, -1, -1}, []int64{-1}},
		{[]int64{0, 0, 0, 1, 1}, []int64{0}}, {[]int64{0, 0, 1, 1, 1}, []int64{1}}, {[]int64{0, 0, 0, -1, -1}, []int64{0}}, {[]int64{0, 0, -1, -1, -1}, []int64{-1}},
		{[]int64{0, 0, 0, 1}, []int64{0}}, {[]int64{0, 0, 0, 3}, []int64{1}}, {[]int64{0, 0, 0, -1}, []int64{0}}, {[]int64{0, 0, 0, -3}, []int64{-1}},
	} {
		for _, center := range []int64{-1000, -1, 0, 1, 1000} {
			list := axisMarks(1, 0, c.numbers...)
			if g := impl.Shifted(list, [][]int64{{center}}); !sameCells(g, allOfOne(c.want)) {
				t.Errorf("Shifted(%v, %d) = %v, not %v", c.numbers, center, g, c.want)
			}
			if impl.Still(list, [][]int64{{center}}) != (center == c.want[0]) {
				t.Errorf("%v are still at %d, or not at %v", c.numbers, center, c.want)
			}
		}
	}
}

// Each sum of so many numbers, in each of the numbers of a point.
func TestShiftedEachSum(t *testing.T) {
	for many := 1; many <= 9; many++ {
		for sum := int64(-40); sum <= 40; sum++ {
			numbers := make([]int64, many)
			numbers[many/2] = sum
			want := meanIn(numbers)
			n := 1 + many%4
			axis := int(sum+40) % n
			list := axisMarks(n, axis, numbers...)
			center := make([]int64, n)
			if g := impl.Shifted(list, [][]int64{center}); !sameCells(g, [][]int64{with(center, axis, want)}) {
				t.Errorf("the mean of %v is %v under %d, not %d", numbers, g, axis, want)
			}
		}
	}
}

// The most marks at both ends: the mean of all but a few at one of them.
func TestShiftedOfMostMarks(t *testing.T) {
	for low := range impl.MaxMarks + 1 {
		numbers := slices.Concat(slices.Repeat([]int64{-1000}, low), slices.Repeat([]int64{1000}, impl.MaxMarks-low))
		list := axisMarks(1, 0, numbers...)
		want := meanIn(numbers)
		if g := impl.Shifted(list, [][]int64{{0}}); !sameCells(g, [][]int64{{want}}) {
			t.Errorf("%d at the low end: %v, not %d", low, g, want)
		}
		if g := impl.Cost(list, [][]int64{{1000}}); g != int64(low)*4000000 {
			t.Errorf("%d at the low end cost %d", low, g)
		}
		given := slices.Concat(slices.Repeat([]int64{1}, low), slices.Repeat([]int64{0}, impl.MaxMarks-low))
		if g := impl.Given(list, [][]int64{{1000}, {-1000}}); !slices.Equal(g, given) {
			t.Errorf("%d at the low end are given to %v", low, g)
		}
	}
}

// Numbers of -MaxAt and MaxAt are right, in each place, of marks and centers.
func TestMeansAtTheEnds(t *testing.T) {
	for n := 1; n <= 4; n++ {
		low, high := slices.Repeat([]int64{-1000}, n), slices.Repeat([]int64{1000}, n)
		far := int64(n) * 4000000
		lows, highs := marksOf(risingIds(1, impl.MaxMarks), low...), marksOf(risingIds(1, impl.MaxMarks), high...)
		noughts := make([]int64, impl.MaxMarks)
		means(t, lows, [][]int64{high}, noughts, impl.MaxMarks*far, [][]int64{low})
		means(t, highs, [][]int64{low}, noughts, impl.MaxMarks*far, [][]int64{high})
		means(t, lows, [][]int64{low, high}, noughts, 0, [][]int64{low, high})
		means(t, highs, [][]int64{high, low}, noughts, 0, [][]int64{high, low})
		both := []impl.Mark{{Id: 1, At: low}, {Id: 2, At: high}}
		means(t, both, [][]int64{high, low}, []int64{1, 0}, 0, [][]int64{high, low})
		means(t, both, [][]int64{low, low}, []int64{0, 0}, far, [][]int64{make([]int64, n), low})
	}
}

// A center to which no mark is given stays, wherever it stands in the list.
func TestShiftedWithoutMarksStays(t *testing.T) {
	for n := 1; n <= 4; n++ {
		list := someMarks(walkOf(uint64(n)), 20, n, 9)
		near := make([]int64, n)
		mean := shiftedIn(list, [][]int64{near})[0]
		for i := range n {
			for _, x := range []int64{-1000, -999, -77, 78, 999, 1000} {
				alone := with(near, i, x)
				for count := 2; count <= mostCenters; count++ {
					for at := range count {
						centers, want := [][]int64{}, [][]int64{}
						for range count {
							centers, want = append(centers, alone), append(want, alone)
						}
						centers[at], want[at] = near, mean
						means(t, list, centers, slices.Repeat([]int64{int64(at)}, len(list)), costIn(list, [][]int64{near}), want)
					}
				}
			}
		}
	}
}

// settled is where the centers come to when they are shifted over and over.
func settled(list []impl.Mark, centers [][]int64) [][]int64 {
	for range 500 {
		shifted := shiftedIn(list, centers)
		if sameCells(shifted, centers) {
			break
		}
		centers = shifted
	}
	return centers
}

// One number of one center beside where it stays is not still.
func TestStillEachNumber(t *testing.T) {
	asked := 0
	for _, c := range manyMeans() {
		centers := settled(c.list, c.centers)
		for i, center := range centers {
			for k, x := range center {
				for _, y := range []int64{x - 1, x + 1} {
					other := copyLists(centers)
					other[i][k] = y
					if !impl.PointOk(other[i]) {
						continue
					}
					want := sameCells(impl.Shifted(c.list, other), other)
					if impl.Still(c.list, other) != want {
						t.Fatalf("Still(%v, %v) is %t", c.list, other, !want)
					}
					if slices.Contains(impl.Given(c.list, other), int64(i)) && !want {
						asked++
					}
				}
			}
		}
	}
	if asked < 1000 {
		t.Errorf("only %d were not still", asked)
	}
}

// Eight centers are right; nine and none are not, nor many more.
func TestHowManyCenters(t *testing.T) {
	next := walkOf(102)
	for n := 1; n <= 4; n++ {
		for _, marks := range []int{0, 1, 7, impl.MaxMarks} {
			list := someMarks(next, marks, n, 50)
			for count := 1; count <= mostCenters; count++ {
				centers := someCenters(next, list, count, n)
				means(t, list, centers, givenIn(list, centers), costIn(list, centers), shiftedIn(list, centers))
			}
			for _, none := range [][][]int64{nil, {}, make([][]int64, 0, 5)} {
				noMeans(t, list, none)
			}
			for _, count := range []int{mostCenters + 1, mostCenters + 2, 16, impl.MaxMarks, 264} {
				noMeans(t, list, someCenters(next, list, count, n))
				noMeans(t, list, slices.Repeat([][]int64{make([]int64, n)}, count))
			}
		}
	}
}

func TestMeansWrongMarks(t *testing.T) {
	next := walkOf(103)
	for _, list := range noMarks() {
		for n := 1; n <= 4; n++ {
			for _, count := range []int{0, 1, 2, mostCenters, mostCenters + 1} {
				noMeans(t, list, someCenters(next, nil, count, n))
			}
		}
	}
}

// One that is no point, or not as long, is refused in each place.
func TestMeansWrongCenter(t *testing.T) {
	next := walkOf(104)
	for n := 1; n <= 4; n++ {
		for _, marks := range []int{1, 2, 20} {
			list := someMarks(next, marks, n, 9)
			for _, wrong := range noPlaces(n) {
				for count := 1; count <= mostCenters; count++ {
					centers := someCenters(next, list, count, n)
					centers[next(int64(count))] = wrong
					noMeans(t, list, centers)
					centers = someCenters(next, list, count, n)
					centers[count-1] = wrong
					noMeans(t, list, centers)
					noMeans(t, list, slices.Repeat([][]int64{wrong}, count))
				}
			}
		}
	}
}

// Where there are no marks, centers are to be points as long as one another.
func TestMeansWrongCenterOfNoMarks(t *testing.T) {
	next := walkOf(105)
	for n := 1; n <= 4; n++ {
		for _, wrong := range noPlaces(n) {
			for count := 2; count <= mostCenters; count++ {
				for at := range count {
					centers := someCenters(next, nil, count, n)
					centers[at] = wrong
					noMeans(t, nil, centers)
				}
			}
		}
		for _, wrong := range noPoints() {
			noMeans(t, nil, [][]int64{wrong})
			noMeans(t, nil, [][]int64{wrong, wrong})
		}
	}
}

// roomyCenters is the centers with spare room behind them and behind each,
// and a look at the whole of that memory.
func roomyCenters(centers [][]int64) ([][]int64, func() []int64) {
	all := append(slices.Clone(centers), []int64{91}, []int64{92, 93}, nil)
	for i, c := range all {
		all[i], _ = roomy(c)
	}
	return all[:len(centers)], func() []int64 {
		var memory []int64
		for _, c := range all {
			memory = append(memory, int64(len(c)), int64(cap(c)))
			memory = append(memory, c[:cap(c)]...)
		}
		return memory
	}
}

// spoilLists writes over all lists of an answer and the room behind them.
func spoilLists(lists [][]int64) {
	lists = lists[:cap(lists)]
	for i, list := range lists {
		spoilNumbers(list)
		lists[i] = []int64{-78}
	}
}

func TestMeansArgumentsStay(t *testing.T) {
	next := walkOf(106)
	cases := manyMeans()
	for _, list := range noMarks() {
		cases = append(cases, meansCase{list, someCenters(next, nil, 3, 2)})
	}
	for _, wrong := range noPlaces(2) {
		list := someMarks(next, 5, 2, 9)
		cases = append(cases, meansCase{list, [][]int64{{1, 2}, wrong, {3, 4}}}, meansCase{list, [][]int64{wrong}}, meansCase{nil, [][]int64{{1, 2}, wrong}})
	}
	cases = append(cases, meansCase{nil, nil}, meansCase{nil, someCenters(next, nil, mostCenters+1, 2)})
	for _, c := range cases {
		list, whole := roomyMarks(c.list)
		centers, look := roomyCenters(c.centers)
		kept, keptCenters := memory(whole), look()
		spoilNumbers(impl.Given(list, centers))
		impl.Cost(list, centers)
		spoilLists(impl.Shifted(list, centers))
		impl.Still(list, centers)
		if !slices.Equal(memory(whole), kept) || !slices.Equal(look(), keptCenters) {
			t.Fatalf("%v, %v became %v, %v", c.list, c.centers, list, centers)
		}
	}
}

// What is written over an answer or its arguments changes no other answer.
func TestMeansAnswersAreNew(t *testing.T) {
	for _, c := range manyMeans() {
		list, _ := roomyMarks(c.list)
		centers, _ := roomyCenters(c.centers)
		given, shifted := impl.Given(list, centers), impl.Shifted(list, centers)
		wantGiven, want := slices.Clone(given), copyLists(shifted)
		spoilNumbers(impl.Given(list, centers))
		spoilLists(impl.Shifted(list, centers))
		for i := range list {
			spoilNumbers(list[i].At)
			list[i].Id = -5
		}
		spoilLists(centers)
		if !slices.Equal(given, wantGiven) || !sameCells(shifted, want) {
			t.Fatalf("of %v and %v they became %v and %v", c.list, c.centers, given, shifted)
		}
	}
}

// Each list of Shifted is its own, with the room behind it: also those of
// centers that stay, and of centers and marks that are one memory.
func TestShiftedListsAreApart(t *testing.T) {
	ownLists := func(list []impl.Mark, centers [][]int64) {
		t.Helper()
		want, forth, back := shiftedIn(list, centers), impl.Shifted(list, centers), impl.Shifted(list, centers)
		for i := range want {
			last := len(want) - 1 - i
			if !sameCells(forth[i:], want[i:]) || !sameCells(back[:last+1], want[:last+1]) {
				t.Fatalf("Shifted(%v, %v): %v or %v, not %v", list, centers, forth[i:], back[:last+1], want)
			}
			spoilNumbers(forth[i])
			spoilNumbers(back[last])
		}
	}
	for _, c := range manyMeans() {
		ownLists(c.list, c.centers)
	}
	for n := 1; n <= 4; n++ {
		one := slices.Repeat([]int64{5}, n)
		for count := 1; count <= mostCenters; count++ {
			centers := slices.Repeat([][]int64{one}, count)
			ownLists(nil, centers)
			ownLists([]impl.Mark{{Id: 1, At: one}}, centers)
			ownLists([]impl.Mark{{Id: 1, At: make([]int64, n)}, {Id: 2, At: one}}, centers)
		}
		if !slices.Equal(one, slices.Repeat([]int64{5}, n)) {
			t.Errorf("the centers became %v", one)
		}
	}
}
