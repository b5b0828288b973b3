package tests

import (
	"cmp"
	"slices"
	"testing"

	"loop.example/g00273/impl"
)

// noCounts are numbers that chapter 3 refuses as a k.
var noCounts = []int64{0, -1, -2, -impl.MaxMarks, impl.MaxMarks + 1, impl.MaxMarks + 2, 1000, 1 << 32, 1<<32 + 1, -1 << 32, least, least + 1, greatest, greatest - 1}

// noMosts are numbers that chapter 3 refuses as a most.
var noMosts = []int64{-1, -2, -16000000, -1 << 32, least, least + 1}

func byOrder(a, b impl.Hit) int {
	return cmp.Or(cmp.Compare(a.Far, b.Far), cmp.Compare(a.Id, b.Id))
}

// allHits are the hits of all marks by the document's words, in order.
func allHits(list []impl.Mark, q []int64) []impl.Hit {
	hits := []impl.Hit{}
	for _, m := range list {
		hits = append(hits, impl.Hit{Id: m.Id, Far: apart(m.At, q, impl.ByFar)})
	}
	slices.SortFunc(hits, byOrder)
	return hits
}

func upTo(hits []impl.Hit, k int) []impl.Hit { return hits[:min(k, len(hits))] }

// together is what Merged is to tell: all in order, of each Id the first.
func together(a, b []impl.Hit, k int) []impl.Hit {
	all := slices.Concat(a, b)
	slices.SortFunc(all, byOrder)
	once := []impl.Hit{}
	for _, h := range all {
		if !slices.ContainsFunc(once, func(o impl.Hit) bool { return o.Id == h.Id }) {
			once = append(once, h)
		}
	}
	return upTo(once, k)
}

// places are points from which it is asked: nought, corners, one elsewhere,
// and where some of the marks are.
func places(next func(int64) int64, list []impl.Mark, n int) [][]int64 {
	all := [][]int64{make([]int64, n), slices.Repeat([]int64{1000}, n), slices.Repeat([]int64{-1000}, n)}
	elsewhere := make([]int64, n)
	for i := range elsewhere {
		elsewhere[i] = next(41) - 20
	}
	all = append(all, elsewhere)
	if len(list) > 0 {
		all = append(all, slices.Clone(list[0].At), slices.Clone(list[len(list)-1].At), slices.Clone(list[next(int64(len(list)))].At))
	}
	return all
}

// long is how many numbers the marks have; 2 where there are none.
func long(list []impl.Mark) int {
	if len(list) == 0 {
		return 2
	}
	return len(list[0].At)
}

// counts are some k below, at and above how many there are.
func counts(many int) []int64 {
	all := []int64{}
	for _, k := range []int{1, 2, 3, many / 2, many - 1, many, many + 1, many + 2, impl.MaxMarks - 1, impl.MaxMarks} {
		if k >= 1 && k <= impl.MaxMarks {
			all = append(all, int64(k))
		}
	}
	return all
}

func TestNearestOrdinary(t *testing.T) {
	one := []impl.Mark{{Id: 2, At: []int64{5}}, {Id: 4, At: []int64{-3}}, {Id: 6, At: []int64{1}}, {Id: 9, At: []int64{3}}}
	two := []impl.Mark{{Id: 1, At: []int64{0, 0}}, {Id: 2, At: []int64{3, 4}}, {Id: 3, At: []int64{1, 0}}, {Id: 5, At: []int64{9, 9}}}
	three := []impl.Mark{{Id: 7, At: []int64{1, 1, 1}}, {Id: 8, At: []int64{0, 0, 1}}, {Id: 1000000, At: []int64{0, 1, 0}}}
	four := []impl.Mark{{Id: 1, At: []int64{1000, 1000, 1000, 1000}}, {Id: 2, At: []int64{-1000, -1000, -1000, -999}}}
	for _, c := range []struct {
		list []impl.Mark
		q    []int64
		k    int64
		want []impl.Hit
	}{
		{one, []int64{1}, 1, []impl.Hit{{Id: 6}}},
		{one, []int64{1}, 2, []impl.Hit{{Id: 6}, {Id: 9, Far: 4}}},
		// 2 and 4 are alike far: the less Id is ahead.
		{one, []int64{1}, 3, []impl.Hit{{Id: 6}, {Id: 9, Far: 4}, {Id: 2, Far: 16}}},
		{one, []int64{1}, 4, []impl.Hit{{Id: 6}, {Id: 9, Far: 4}, {Id: 2, Far: 16}, {Id: 4, Far: 16}}},
		{one, []int64{1}, 5, []impl.Hit{{Id: 6}, {Id: 9, Far: 4}, {Id: 2, Far: 16}, {Id: 4, Far: 16}}},
		{two, []int64{0, 0}, 3, []impl.Hit{{Id: 1}, {Id: 3, Far: 1}, {Id: 2, Far: 25}}},
		{two, []int64{9, 8}, 60, []impl.Hit{{Id: 5, Far: 1}, {Id: 2, Far: 52}, {Id: 3, Far: 128}, {Id: 1, Far: 145}}},
		{three, []int64{0, 0, 0}, 3, []impl.Hit{{Id: 8, Far: 1}, {Id: 1000000, Far: 1}, {Id: 7, Far: 3}}},
		{three, []int64{1, 1, 0}, 2, []impl.Hit{{Id: 7, Far: 1}, {Id: 1000000, Far: 1}}},
		{four, []int64{-1000, -1000, -1000, -1000}, 60, []impl.Hit{{Id: 2, Far: 1}, {Id: 1, Far: 16000000}}},
	} {
		if g := impl.Nearest(c.list, c.q, c.k); !slices.Equal(g, c.want) {
			t.Errorf("Nearest(%v, %v, %d) = %v, not %v", c.list, c.q, c.k, g, c.want)
		}
	}
}

// Promise 3: Nearest are the first by the order.
func TestNearestIsTheFirst(t *testing.T) {
	next := walkOf(3)
	for _, list := range manyMarks() {
		for _, q := range places(next, list, long(list)) {
			all := allHits(list, q)
			for _, k := range counts(len(list)) {
				g := impl.Nearest(list, q, k)
				if !slices.Equal(g, upTo(all, int(k))) {
					t.Fatalf("Nearest(%v, %v, %d) = %v, not %v", list, q, k, g, upTo(all, int(k)))
				}
				if !impl.HitsOk(g) {
					t.Fatalf("Nearest(%v, %v, %d) = %v is not HitsOk", list, q, k, g)
				}
			}
		}
	}
}

// parts gives the marks in two, each of them right marks, in some ways.
func parts(next func(int64) int64, list []impl.Mark) [][2][]impl.Mark {
	cut := len(list) / 2
	all := [][2][]impl.Mark{{list, nil}, {nil, list}, {list[:cut], list[cut:]}, {list[cut:], list[:cut]}}
	var mixed, both [2][]impl.Mark
	for _, m := range list {
		side := next(2)
		mixed[side] = append(mixed[side], m)
		// In this one some stand in both parts.
		both[side] = append(both[side], m)
		if next(3) == 0 {
			both[1-side] = append(both[1-side], m)
		}
	}
	return append(all, mixed, both, [2][]impl.Mark{list, list})
}

// Promise 3: the Nearest of all are the Merged of the Nearest of two parts.
func TestNearestOfTwoPartsMerged(t *testing.T) {
	next := walkOf(33)
	for _, list := range manyMarks() {
		for _, q := range places(next, list, long(list)) {
			for _, part := range parts(next, list) {
				for _, k := range counts(len(list)) {
					want := impl.Nearest(list, q, k)
					g := impl.Merged(impl.Nearest(part[0], q, k), impl.Nearest(part[1], q, k), k)
					if !slices.Equal(g, want) {
						t.Fatalf("%v and %v, %v, %d: merged %v, not %v", part[0], part[1], q, k, g, want)
					}
				}
			}
		}
	}
}

func TestEachCount(t *testing.T) {
	list := someMarks(walkOf(5), impl.MaxMarks, 2, 4)
	q := []int64{1, -1}
	all := allHits(list, q)
	for k := int64(-3); k <= impl.MaxMarks+3; k++ {
		want := []impl.Hit{}
		if k >= 1 && k <= impl.MaxMarks {
			want = all[:k]
		}
		if g := impl.Nearest(list, q, k); !slices.Equal(g, want) {
			t.Errorf("Nearest by %d = %v, not %v", k, g, want)
		}
		if g := impl.Merged(all, nil, k); !slices.Equal(g, want) {
			t.Errorf("Merged by %d = %v, not %v", k, g, want)
		}
	}
}

func TestWithinOrdinary(t *testing.T) {
	list := []impl.Mark{{Id: 1, At: []int64{3, 4}}, {Id: 2, At: []int64{0, 0}}, {Id: 3, At: []int64{1, 0}}, {Id: 5, At: []int64{-4, 3}}, {Id: 8, At: []int64{0, 0}}}
	for _, c := range []struct {
		most int64
		want []int64
	}{
		{0, []int64{2, 8}}, {1, []int64{2, 8, 3}}, {2, []int64{2, 8, 3}}, {24, []int64{2, 8, 3}},
		{25, []int64{2, 8, 3, 1, 5}}, {26, []int64{2, 8, 3, 1, 5}}, {16000000, []int64{2, 8, 3, 1, 5}}, {greatest, []int64{2, 8, 3, 1, 5}},
		{-1, nil}, {-25, nil}, {least, nil},
	} {
		ids := []int64{}
		for _, h := range impl.Within(list, []int64{0, 0}, c.most) {
			ids = append(ids, h.Id)
		}
		if !slices.Equal(ids, c.want) {
			t.Errorf("Within %d are %v, not %v", c.most, ids, c.want)
		}
	}
}

// A most of 0, of each Far that is there, and of one less and one more.
func TestWithinIsAllUpToMost(t *testing.T) {
	next := walkOf(4)
	for _, list := range manyMarks() {
		for _, q := range places(next, list, long(list)) {
			all := allHits(list, q)
			mosts := []int64{0, 1, 16000000, 16000001, 1 << 40, greatest}
			for _, h := range all {
				mosts = append(mosts, h.Far, max(h.Far-1, 0), h.Far+1)
			}
			for _, most := range mosts {
				want := slices.DeleteFunc(slices.Clone(all), func(h impl.Hit) bool { return h.Far > most })
				g := impl.Within(list, q, most)
				if !slices.Equal(g, want) {
					t.Fatalf("Within(%v, %v, %d) = %v, not %v", list, q, most, g, want)
				}
			}
		}
	}
}

func TestNoMarksAtAll(t *testing.T) {
	for _, none := range [][]impl.Mark{nil, {}, make([]impl.Mark, 0, 5)} {
		for n := 1; n <= 5; n++ {
			for _, k := range []int64{1, 2, impl.MaxMarks, 0, greatest} {
				nothing(t, none, make([]int64, n), k, k)
			}
		}
	}
}

// nothing asks for the fixed answer of both.
func nothing(t *testing.T, list []impl.Mark, q []int64, k, most int64) {
	t.Helper()
	if g := impl.Nearest(list, q, k); len(g) != 0 {
		t.Errorf("Nearest(%v, %v, %d) = %v", list, q, k, g)
	}
	if g := impl.Within(list, q, most); len(g) != 0 {
		t.Errorf("Within(%v, %v, %d) = %v", list, q, most, g)
	}
}

func TestTopWrongMarks(t *testing.T) {
	for _, list := range noMarks() {
		for n := range 6 {
			nothing(t, list, make([]int64, n), 1, 0)
			nothing(t, list, make([]int64, n), impl.MaxMarks, greatest)
		}
		if len(list) > 0 {
			nothing(t, list, list[0].At, 5, 16000000)
		}
	}
}

func TestTopWrongPlace(t *testing.T) {
	for n := 1; n <= 4; n++ {
		list := someMarks(walkOf(uint64(n)), 7, n, 3)
		for other := range 7 {
			if other != n {
				nothing(t, list, make([]int64, other), 3, greatest)
			}
		}
		for _, q := range noPoints() {
			nothing(t, list, q, 3, greatest)
			nothing(t, nil, q, 3, greatest)
		}
		for i := range n {
			for _, x := range []int64{-1001, 1001, least, greatest} {
				q := make([]int64, n)
				q[i] = x
				nothing(t, list, q, 3, greatest)
			}
		}
		if len(impl.Nearest(list, make([]int64, n), 3)) != 3 || len(impl.Within(list, make([]int64, n), greatest)) != 7 {
			t.Errorf("%d numbers: the right place is refused", n)
		}
	}
}

func TestTopWrongNumbers(t *testing.T) {
	for _, list := range manyMarks() {
		q := make([]int64, long(list))
		hits := allHits(list, q)
		for _, k := range noCounts {
			if g := impl.Nearest(list, q, k); len(g) != 0 {
				t.Fatalf("Nearest(%v, %v, %d) = %v", list, q, k, g)
			}
			if g := impl.Merged(hits, hits, k); len(g) != 0 {
				t.Fatalf("Merged(%v, itself, %d) = %v", hits, k, g)
			}
		}
		for _, most := range noMosts {
			if g := impl.Within(list, q, most); len(g) != 0 {
				t.Fatalf("Within(%v, %v, %d) = %v", list, q, most, g)
			}
		}
	}
}

func TestMergedOrdinary(t *testing.T) {
	a := []impl.Hit{{Id: 3, Far: 1}, {Id: 2, Far: 25}}
	b := []impl.Hit{{Id: 2, Far: 25}, {Id: 9, Far: 30}}
	for _, c := range []struct {
		a, b []impl.Hit
		k    int64
		want []impl.Hit
	}{
		{a, b, 1, []impl.Hit{{Id: 3, Far: 1}}},
		{a, b, 2, []impl.Hit{{Id: 3, Far: 1}, {Id: 2, Far: 25}}},
		{a, b, 3, []impl.Hit{{Id: 3, Far: 1}, {Id: 2, Far: 25}, {Id: 9, Far: 30}}},
		{a, b, 60, []impl.Hit{{Id: 3, Far: 1}, {Id: 2, Far: 25}, {Id: 9, Far: 30}}},
		{a, nil, 60, a}, {nil, b, 60, b}, {a, a, 60, a}, {nil, nil, 1, nil}, {[]impl.Hit{}, nil, 60, nil},
		// An Id in both lists with another Far: its first by the order stays.
		{[]impl.Hit{{Id: 1, Far: 9}}, []impl.Hit{{Id: 1, Far: 4}}, 60, []impl.Hit{{Id: 1, Far: 4}}},
		{[]impl.Hit{{Id: 1, Far: 4}, {Id: 2, Far: 7}}, []impl.Hit{{Id: 2, Far: 3}, {Id: 1, Far: 8}}, 60, []impl.Hit{{Id: 2, Far: 3}, {Id: 1, Far: 4}}},
		// What is left out of one Id makes room for the next one.
		{[]impl.Hit{{Id: 1, Far: 1}, {Id: 1, Far: 2}, {Id: 1, Far: 3}}, []impl.Hit{{Id: 1, Far: 2}, {Id: 5, Far: 4}, {Id: 6, Far: 5}}, 2, []impl.Hit{{Id: 1, Far: 1}, {Id: 5, Far: 4}}},
		// Twice in one list, once alike.
		{[]impl.Hit{{Id: 4, Far: 2}, {Id: 4, Far: 2}, {Id: 5, Far: 2}}, nil, 2, []impl.Hit{{Id: 4, Far: 2}, {Id: 5, Far: 2}}},
		{nil, []impl.Hit{{Id: 4, Far: 2}, {Id: 3, Far: 3}, {Id: 4, Far: 9}}, 60, []impl.Hit{{Id: 4, Far: 2}, {Id: 3, Far: 3}}},
		// Alike far: by Id, whichever list they come from.
		{[]impl.Hit{{Id: 2, Far: 5}, {Id: 4, Far: 5}}, []impl.Hit{{Id: 1, Far: 5}, {Id: 3, Far: 5}}, 3, []impl.Hit{{Id: 1, Far: 5}, {Id: 2, Far: 5}, {Id: 3, Far: 5}}},
		// In no order.
		{[]impl.Hit{{Id: 7, Far: 9}, {Id: 6, Far: 1}, {Id: 5, Far: 4}}, []impl.Hit{{Id: 9, Far: 9}, {Id: 8, Far: 0}}, 4, []impl.Hit{{Id: 8}, {Id: 6, Far: 1}, {Id: 5, Far: 4}, {Id: 7, Far: 9}}},
		{[]impl.Hit{{Id: 1, Far: 9}, {Id: 1, Far: 2}}, []impl.Hit{{Id: 2, Far: 9}, {Id: 2, Far: 1}}, 60, []impl.Hit{{Id: 2, Far: 1}, {Id: 1, Far: 2}}},
		// Numbers that HitsOk refuses are merged by the same order.
		{[]impl.Hit{{}, {Id: -1, Far: -1}}, []impl.Hit{{Id: 1}}, 60, []impl.Hit{{Id: -1, Far: -1}, {}, {Id: 1}}},
		{[]impl.Hit{{Id: 1, Far: greatest}, {Id: greatest}}, []impl.Hit{{Id: 2, Far: least}, {Id: least}}, 60, []impl.Hit{{Id: 2, Far: least}, {Id: least}, {Id: greatest}, {Id: 1, Far: greatest}}},
	} {
		for range 2 {
			if g := impl.Merged(c.a, c.b, c.k); !slices.Equal(g, c.want) {
				t.Errorf("Merged(%v, %v, %d) = %v, not %v", c.a, c.b, c.k, g, c.want)
			}
			c.a, c.b = c.b, c.a
		}
	}
}

// someHits are in no order; what is narrow has many Ids and Fars twice.
func someHits(next func(int64) int64, count int, wide int64) []impl.Hit {
	list := make([]impl.Hit, count)
	for i := range list {
		list[i] = impl.Hit{Id: next(wide) - wide/4, Far: next(wide) - wide/4}
	}
	return list
}

func TestMergedIsTheFirstOfBoth(t *testing.T) {
	next := walkOf(6)
	for _, wide := range []int64{1, 2, 5, 20, 1 << 30} {
		for _, many := range []int{0, 1, 2, 5, 30, 60, 61, 150} {
			for _, more := range []int{0, 1, 4, 60, 100} {
				a, b := someHits(next, many, wide), someHits(next, more, wide)
				for _, k := range counts(many + more) {
					for range 2 {
						if g := impl.Merged(a, b, k); !slices.Equal(g, together(a, b, int(k))) {
							t.Fatalf("Merged(%v, %v, %d) = %v, not %v", a, b, k, g, together(a, b, int(k)))
						}
						a, b = b, a
					}
				}
			}
		}
	}
}

func TestHitsOk(t *testing.T) {
	for _, c := range []struct {
		list []impl.Hit
		want bool
	}{
		{nil, true}, {[]impl.Hit{}, true},
		{[]impl.Hit{{Id: 1}}, true},
		{[]impl.Hit{{Id: 0}}, false},
		{[]impl.Hit{{Id: -1}}, false},
		{[]impl.Hit{{Id: 0, Far: 5}}, false},
		{[]impl.Hit{{Id: least, Far: 5}}, false},
		{[]impl.Hit{{Id: 1, Far: -1}}, false},
		{[]impl.Hit{{Id: 1, Far: least}}, false},
		{[]impl.Hit{{Id: greatest, Far: greatest}}, true},
		{[]impl.Hit{{Id: impl.MaxId + 1, Far: 16000001}}, true},
		{[]impl.Hit{{Id: 1}, {Id: 2}}, true},
		{[]impl.Hit{{Id: 2}, {Id: 1}}, false},
		{[]impl.Hit{{Id: 2}, {Id: 1, Far: 1}}, true},
		{[]impl.Hit{{Id: 1, Far: 1}, {Id: 2}}, false},
		{[]impl.Hit{{Id: 1, Far: 1}, {Id: 1, Far: 1}}, false},
		// An Id may come twice, as long as each is ahead of the next one.
		{[]impl.Hit{{Id: 1, Far: 1}, {Id: 1, Far: 2}}, true},
		{[]impl.Hit{{Id: 1, Far: 2}, {Id: 1, Far: 1}}, false},
		{[]impl.Hit{{Id: 5, Far: 3}, {Id: 7, Far: 3}, {Id: 1, Far: 4}, {Id: 2, Far: 4}}, true},
		{[]impl.Hit{{Id: 5, Far: 3}, {Id: 7, Far: 3}, {Id: 2, Far: 4}, {Id: 1, Far: 4}}, false},
		{[]impl.Hit{{Id: 5, Far: 3}, {Id: 7, Far: 3}, {Id: 1, Far: 4}, {Id: 1, Far: 4}}, false},
		{[]impl.Hit{{Id: 7, Far: 3}, {Id: 5, Far: 3}, {Id: 1, Far: 4}}, false},
		// In order, but from a number below what there may be.
		{[]impl.Hit{{Id: 0}, {Id: 1}}, false},
		{[]impl.Hit{{Id: 1, Far: -1}, {Id: 1}}, false},
		{[]impl.Hit{{Id: 1}, {Id: 0, Far: 1}}, false},
		{[]impl.Hit{{Id: 1, Far: least}, {Id: 1, Far: greatest}}, false},
		{[]impl.Hit{{Id: 1, Far: greatest}, {Id: 1, Far: least}}, false},
	} {
		if g := impl.HitsOk(c.list); g != c.want {
			t.Errorf("HitsOk(%v) is %t", c.list, g)
		}
	}
}

// More hits than there may be marks are in order too; one that is wrong is
// found in each place.
func TestHitsOkEachPlace(t *testing.T) {
	list := []impl.Hit{}
	for i := range int64(2 * impl.MaxMarks) {
		list = append(list, impl.Hit{Id: 1 + i%3, Far: i / 3})
	}
	if !impl.HitsOk(list) {
		t.Error("many in order are refused")
	}
	for i, h := range list {
		wrongs := []impl.Hit{{Id: 0, Far: h.Far}, {Id: -1, Far: h.Far}, {Id: h.Id, Far: -1}}
		if i > 0 {
			wrongs = append(wrongs, list[i-1])
		}
		if i < len(list)-1 {
			wrongs = append(wrongs, list[i+1])
		}
		for _, wrong := range wrongs {
			other := slices.Clone(list)
			other[i] = wrong
			if impl.HitsOk(other) {
				t.Errorf("HitsOk is true with %v under %d", wrong, i)
			}
		}
	}
}

func roomyHits(hits []impl.Hit) (list, whole []impl.Hit) {
	whole = append(slices.Clone(hits), impl.Hit{Id: 81, Far: 82}, impl.Hit{Id: -83, Far: -84}, impl.Hit{Id: 85})
	return whole[:len(hits)], whole
}

// spoil writes over an answer and the room behind it: where it is no new
// memory, an argument is seen to change.
func spoil(hits []impl.Hit) {
	hits = hits[:cap(hits)]
	for i := range hits {
		hits[i] = impl.Hit{Id: -77, Far: -78}
	}
}

func TestTopMarksStay(t *testing.T) {
	next := walkOf(7)
	for _, marks := range append(manyMarks(), noMarks()...) {
		list, whole := roomyMarks(marks)
		kept := memory(whole)
		for _, p := range append(places(next, nil, long(marks)), nil, []int64{1, least}) {
			q, wholeQ := roomy(p)
			keptQ := slices.Clone(wholeQ)
			for _, k := range []int64{1, 3, impl.MaxMarks, 0, least, greatest} {
				spoil(impl.Nearest(list, q, k))
				spoil(impl.Within(list, q, k))
				if !slices.Equal(memory(whole), kept) || !slices.Equal(wholeQ, keptQ) {
					t.Fatalf("%v, %v became %v, %v", marks, keptQ, list, wholeQ)
				}
			}
		}
	}
}

func TestTopHitsStay(t *testing.T) {
	next := walkOf(8)
	for _, many := range []int{0, 1, 2, 7, 60, 90} {
		for _, more := range []int{0, 1, 5, 60} {
			for _, k := range []int64{1, 4, impl.MaxMarks, 0, impl.MaxMarks + 1, least, greatest} {
				a, wholeA := roomyHits(someHits(next, many, 30))
				b, wholeB := roomyHits(someHits(next, more, 30))
				keptA, keptB := slices.Clone(wholeA), slices.Clone(wholeB)
				impl.HitsOk(a)
				spoil(impl.Merged(a, b, k))
				spoil(impl.Merged(a, nil, k))
				spoil(impl.Merged(nil, b, k))
				spoil(impl.Merged(a, a, k))
				if !slices.Equal(wholeA, keptA) || !slices.Equal(wholeB, keptB) {
					t.Fatalf("%v, %v became %v, %v", keptA, keptB, wholeA, wholeB)
				}
			}
		}
	}
}

// An answer outlives the next call and a change of what was given.
func TestTopAnswersAreNew(t *testing.T) {
	list := someMarks(walkOf(9), 12, 2, 5)
	q := []int64{1, 2}
	want := allHits(list, q)
	near, within := impl.Nearest(list, q, 12), impl.Within(list, q, greatest)
	merged := impl.Merged(near, within, 12)
	for _, hits := range [][]impl.Hit{near, within, merged} {
		if !slices.Equal(hits, want) {
			t.Fatalf("%v, not %v", hits, want)
		}
	}
	spoil(impl.Nearest(list, q, 12))
	spoil(impl.Within(list, q, greatest))
	spoil(impl.Merged(near, within, 12))
	list[0].At[0], q[0] = 999, 999
	spoil(near)
	if !slices.Equal(within, want) || !slices.Equal(merged, want) {
		t.Errorf("%v and %v, not %v", within, merged, want)
	}
	spoil(within)
	if !slices.Equal(merged, want) {
		t.Errorf("%v, not %v", merged, want)
	}
}
