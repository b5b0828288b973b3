package tests

import (
	"slices"
	"testing"

	"loop.example/g00273/impl"
)

// mostLinked is the greatest most that Linked takes.
const mostLinked = 8

// noLinkCounts are numbers that chapter 14 refuses as a most.
var noLinkCounts = []int64{0, -1, -2, -mostLinked, mostLinked + 1, mostLinked + 2, 16, impl.MaxMarks, 1 << 32, 1<<32 + 1, 1<<32 + mostLinked, -1 << 32, least, least + 1, greatest, greatest - 1}

// webOf is a web of these marks, in which each pair is linked both ways.
func webOf(list []impl.Mark, pairs ...[2]int64) impl.Web {
	w := copyWeb(impl.Web{Marks: list, Links: make([][]int64, len(list))})
	for _, pair := range pairs {
		if !slices.Contains(linksOf(w, pair[0]), pair[1]) {
			addLink(w, pair[0], pair[1])
			addLink(w, pair[1], pair[0])
		}
	}
	return w
}

// addLink is of one way only.
func addLink(w impl.Web, id, other int64) {
	at := slices.Index(idsOfMarks(w.Marks), id)
	w.Links[at] = append(w.Links[at], other)
	slices.Sort(w.Links[at])
}

// lineWeb has marks of one number, under the Ids from 1 on.
func lineWeb(numbers []int64, pairs ...[2]int64) impl.Web {
	return webOf(axisMarks(1, 0, numbers...), pairs...)
}

func linksOf(w impl.Web, id int64) []int64 {
	return w.Links[slices.Index(idsOfMarks(w.Marks), id)]
}

func copyMark(m impl.Mark) impl.Mark { return impl.Mark{Id: m.Id, At: slices.Clone(m.At)} }

func copyWeb(w impl.Web) impl.Web {
	own := impl.Web{Links: copyLists(w.Links)}
	for _, m := range w.Marks {
		own.Marks = append(own.Marks, copyMark(m))
	}
	return own
}

func sameWeb(a, b impl.Web) bool {
	return slices.EqualFunc(a.Marks, b.Marks, sameMark) && sameCells(a.Links, b.Links)
}

func isZeroWeb(w impl.Web) bool { return len(w.Marks) == 0 && len(w.Links) == 0 }

// webIn is WebOk by the document's words.
func webIn(w impl.Web) bool {
	if !impl.MarksOk(w.Marks) || len(w.Links) != len(w.Marks) {
		return false
	}
	ids := idsOfMarks(w.Marks)
	for i, links := range w.Links {
		if !rising(links) {
			return false
		}
		for _, id := range links {
			at := slices.Index(ids, id)
			if at < 0 || at == i || !slices.Contains(w.Links[at], ids[i]) {
				return false
			}
		}
	}
	return true
}

// linkedIn is Linked of what is right, by the document's words.
func linkedIn(w impl.Web, m impl.Mark, most int64) impl.Web {
	grown := copyWeb(w)
	grown.Marks, grown.Links = append(grown.Marks, copyMark(m)), append(grown.Links, nil)
	for _, h := range upTo(allHits(w.Marks, m.At), int(most)) {
		addLink(grown, h.Id, m.Id)
		addLink(grown, m.Id, h.Id)
	}
	return grown
}

// webGrown has the marks linked one after the other, by the document's words.
func webGrown(list []impl.Mark, most int64) impl.Web {
	w := impl.Web{}
	for _, m := range list {
		w = linkedIn(w, m, most)
	}
	return w
}

// hitsAmong are the hits of those with these Ids, in order.
func hitsAmong(w impl.Web, ids []int64, q []int64) []impl.Hit {
	return allHits(withIds(w.Marks, ids), q)
}

func hitIn(w impl.Web, id int64, q []int64) impl.Hit { return hitsAmong(w, []int64{id}, q)[0] }

// walkIn is Walk by the document's words.
func walkIn(w impl.Web, from int64, q []int64) []int64 {
	for way := []int64{from}; ; {
		here := way[len(way)-1]
		linked := hitsAmong(w, linksOf(w, here), q)
		if len(linked) == 0 || byOrder(linked[0], hitIn(w, here, q)) > 0 {
			return way
		}
		way = append(way, linked[0].Id)
	}
}

// beamIn is Beam by the document's words.
func beamIn(w impl.Web, from int64, q []int64, wide int64) []impl.Hit {
	for seen, opened := []int64{from}, []int64{}; ; {
		hits := hitsAmong(w, seen, q)
		at := slices.IndexFunc(hits, func(h impl.Hit) bool { return !slices.Contains(opened, h.Id) })
		if at < 0 || int64(at) >= wide {
			return upTo(hits, int(wide))
		}
		opened = append(opened, hits[at].Id)
		for _, id := range linksOf(w, hits[at].Id) {
			if !slices.Contains(seen, id) {
				seen = append(seen, id)
			}
		}
	}
}

// islandIn are the Ids to which one comes from this one, rising.
func islandIn(w impl.Web, from int64) []int64 {
	island := []int64{from}
	for i := 0; i < len(island); i++ {
		for _, id := range linksOf(w, island[i]) {
			if !slices.Contains(island, id) {
				island = append(island, id)
			}
		}
	}
	slices.Sort(island)
	return island
}

// islandsIn is Islands by the document's words.
func islandsIn(w impl.Web) int64 {
	islands := int64(0)
	for _, m := range w.Marks {
		if islandIn(w, m.Id)[0] == m.Id {
			islands++
		}
	}
	return islands
}

// pathPairs link each of these to the next one, in this order.
func pathPairs(ids []int64) [][2]int64 {
	pairs := [][2]int64{}
	for i := 1; i < len(ids); i++ {
		pairs = append(pairs, [2]int64{ids[i-1], ids[i]})
	}
	return pairs
}

// allPairs link each of these to each.
func allPairs(ids []int64) [][2]int64 {
	pairs := [][2]int64{}
	for i, a := range ids {
		for _, b := range ids[:i] {
			pairs = append(pairs, [2]int64{a, b})
		}
	}
	return pairs
}

// drawnPairs are count pairs of any two, some of them more than once.
func drawnPairs(next func(int64) int64, ids []int64, count int) [][2]int64 {
	pairs := [][2]int64{}
	for range count {
		a, b := ids[next(int64(len(ids)))], ids[next(int64(len(ids)))]
		if a != b {
			pairs = append(pairs, [2]int64{a, b})
		}
	}
	return pairs
}

// websOf are webs of these marks: grown with few links and with many, paths,
// rings, drawn ones of many islands and of few, one with no link, one with
// all, and heaps between which there is no link.
func websOf(next func(int64) int64, list []impl.Mark) []impl.Web {
	ids := idsOfMarks(list)
	path := pathPairs(mixed(next, ids))
	heaps := [][2]int64{}
	for _, heap := range cut(mixed(next, ids), min(len(ids), 4)) {
		heaps = append(heaps, drawnPairs(next, heap, 2*len(heap))...)
	}
	ring := append(slices.Clone(path), [2]int64{ids[0], ids[len(ids)-1]})
	if len(ids) < 3 {
		ring = path
	}
	return []impl.Web{
		webGrown(list, 1), webGrown(list, 2+next(3)), webGrown(list, mostLinked),
		webOf(list, path...), webOf(list, ring...),
		webOf(list, drawnPairs(next, ids, len(ids)/2)...), webOf(list, drawnPairs(next, ids, len(ids))...), webOf(list, drawnPairs(next, ids, 3*len(ids))...),
		webOf(list), webOf(list, allPairs(ids)...), webOf(list, heaps...),
	}
}

// manyWebs are right webs of 1 to 4 numbers, the empty one, and webs of one
// mark up to as many as there may be.
func manyWebs() []impl.Web {
	next, webs := walkOf(14), []impl.Web{{}}
	for n := 1; n <= 4; n++ {
		for _, wide := range []int64{0, 2, 40, 1000} {
			for _, count := range []int{1, 2, 3, 4, 6, 9, 20} {
				webs = append(webs, websOf(next, someMarks(next, count, n, wide))...)
			}
		}
		webs = append(webs, websOf(next, someMarks(next, impl.MaxMarks-1, n, 30))...)
		webs = append(webs, websOf(next, someMarks(next, impl.MaxMarks, n, 8*int64(n)))...)
	}
	return webs
}

// startsOf are the Ids of a web from which it is asked: all of few, some of
// many, the first and the last one among them.
func startsOf(next func(int64) int64, w impl.Web) []int64 {
	ids := idsOfMarks(w.Marks)
	if len(ids) <= 6 {
		return ids
	}
	some := mixed(next, ids[1:len(ids)-1])[:2]
	return append(some, ids[0], ids[len(ids)-1])
}

// eachAsked goes through many webs, marks of them to start from, and places.
func eachAsked(start uint64, do func(w impl.Web, from int64, q []int64)) {
	next := walkOf(start)
	for _, w := range manyWebs() {
		for _, from := range startsOf(next, w) {
			for _, q := range places(next, w.Marks, long(w.Marks))[1:] {
				do(w, from, q)
			}
		}
	}
}

// lastMark is a mark that comes behind all others of a right web.
func lastMark(w impl.Web, at ...int64) impl.Mark {
	id := int64(1)
	for _, m := range w.Marks {
		id = m.Id + 1
	}
	return impl.Mark{Id: id, At: at}
}

func walks(t *testing.T, w impl.Web, from int64, q, want []int64) {
	t.Helper()
	if g := impl.Walk(w, from, q); !slices.Equal(g, want) {
		t.Fatalf("Walk(%v, %d, %v) = %v, not %v", w, from, q, g, want)
	}
}

func beams(t *testing.T, w impl.Web, from int64, q []int64, wide int64, want []impl.Hit) {
	t.Helper()
	if g := impl.Beam(w, from, q, wide); !slices.Equal(g, want) {
		t.Fatalf("Beam(%v, %d, %v, %d) = %v, not %v", w, from, q, wide, g, want)
	}
}

func islands(t *testing.T, w impl.Web, want int64) {
	t.Helper()
	if !impl.WebOk(w) {
		t.Fatalf("WebOk(%v) is false", w)
	}
	if g := impl.Islands(w); g != want {
		t.Fatalf("Islands(%v) = %d, not %d", w, g, want)
	}
}

// notLinked asks for the fixed answer of Linked.
func notLinked(t *testing.T, w impl.Web, m impl.Mark, most int64) {
	t.Helper()
	if g, ok := impl.Linked(w, m, most); ok || !isZeroWeb(g) {
		t.Fatalf("Linked(%v, %v, %d) = %v, %t", w, m, most, g, ok)
	}
}

// notFelt asks for the fixed answers of Walk and of Beam.
func notFelt(t *testing.T, w impl.Web, from int64, q []int64) {
	t.Helper()
	walks(t, w, from, q, nil)
	for _, wide := range []int64{1, 2, impl.MaxMarks} {
		beams(t, w, from, q, wide, nil)
	}
}

// notWeb asks all functions for their fixed answers, with all else right.
func notWeb(t *testing.T, w impl.Web) {
	t.Helper()
	if impl.WebOk(w) {
		t.Fatalf("WebOk(%v) is true", w)
	}
	if g := impl.Islands(w); g != -1 {
		t.Fatalf("Islands(%v) = %d", w, g)
	}
	for n := 1; n <= 4; n++ {
		q := make([]int64, n)
		for _, most := range []int64{1, mostLinked} {
			notLinked(t, w, lastMark(w, q...), most)
			notLinked(t, w, impl.Mark{Id: impl.MaxId, At: q}, most)
		}
		for _, from := range append(upToNumbers(idsOfMarks(w.Marks), 3), 1, 2) {
			notFelt(t, w, from, q)
		}
	}
}

func upToNumbers(list []int64, k int) []int64 { return slices.Clone(list[:min(k, len(list))]) }

// hillWeb has the nearest one to 10 behind a farther one, and two apart.
func hillWeb() impl.Web {
	return lineWeb([]int64{0, -5, 10, 11, 30, 31}, [2]int64{1, 2}, [2]int64{2, 3}, [2]int64{3, 4}, [2]int64{5, 6})
}

func TestLinkedOrdinary(t *testing.T) {
	list := []impl.Mark{{Id: 1, At: []int64{0, 0}}, {Id: 2, At: []int64{3, 4}}, {Id: 3, At: []int64{1, 0}}, {Id: 5, At: []int64{9, 9}}, {Id: 8, At: []int64{4, 4}}}
	for _, c := range []struct {
		most  int64
		links [][]int64
	}{
		{1, [][]int64{{2, 3}, {1, 5, 8}, {1}, {2}, {2}}},
		{2, [][]int64{{2, 3}, {1, 3, 5, 8}, {1, 2, 5, 8}, {2, 3}, {2, 3}}},
		{3, [][]int64{{2, 3, 5, 8}, {1, 3, 5, 8}, {1, 2, 5, 8}, {1, 2, 3}, {1, 2, 3}}},
		{4, [][]int64{{2, 3, 5, 8}, {1, 3, 5, 8}, {1, 2, 5, 8}, {1, 2, 3, 8}, {1, 2, 3, 5}}},
		{8, [][]int64{{2, 3, 5, 8}, {1, 3, 5, 8}, {1, 2, 5, 8}, {1, 2, 3, 8}, {1, 2, 3, 5}}},
	} {
		w := impl.Web{}
		for _, m := range list {
			grown, ok := impl.Linked(w, m, c.most)
			if !ok {
				t.Fatalf("Linked(%v, %v, %d) says false", w, m, c.most)
			}
			w = grown
		}
		if !sameWeb(w, impl.Web{Marks: list, Links: c.links}) {
			t.Errorf("by %d: %v, not %v", c.most, w, c.links)
		}
		islands(t, w, 1)
	}
}

// Also into a web that was not grown: of several islands, it ties them.
func TestLinkedTiesIslands(t *testing.T) {
	w := hillWeb()
	for _, c := range []struct {
		at, most int64
		links    [][]int64
		islands  int64
	}{
		{20, 1, [][]int64{{2}, {1, 3}, {2, 4}, {3, 7}, {6}, {5}, {4}}, 2},
		{20, 2, [][]int64{{2}, {1, 3}, {2, 4, 7}, {3, 7}, {6}, {5}, {3, 4}}, 2},
		{20, 3, [][]int64{{2}, {1, 3}, {2, 4, 7}, {3, 7}, {6, 7}, {5}, {3, 4, 5}}, 1},
		{1000, 1, [][]int64{{2}, {1, 3}, {2, 4}, {3}, {6}, {5, 7}, {6}}, 2},
		{-1000, 8, [][]int64{{2, 7}, {1, 3, 7}, {2, 4, 7}, {3, 7}, {6, 7}, {5, 7}, {1, 2, 3, 4, 5, 6}}, 1},
	} {
		g, ok := impl.Linked(w, lastMark(w, c.at), c.most)
		if !ok || !sameCells(g.Links, c.links) {
			t.Errorf("Linked at %d by %d: %v, %t, not %v", c.at, c.most, g, ok, c.links)
		}
		islands(t, g, c.islands)
	}
}

func TestWalkOrdinary(t *testing.T) {
	hill := hillWeb()
	// All but the first are as far from 0: the less Id is ahead.
	alike := lineWeb([]int64{7, 3, -3, 3, -3}, [2]int64{1, 4}, [2]int64{1, 3}, [2]int64{3, 2}, [2]int64{4, 5}, [2]int64{5, 3})
	for _, c := range []struct {
		w       impl.Web
		from, q int64
		want    []int64
	}{
		{hill, 1, 10, []int64{1}}, {hill, 2, 10, []int64{2, 3}}, {hill, 3, 10, []int64{3}}, {hill, 4, 10, []int64{4, 3}},
		{hill, 5, 10, []int64{5}}, {hill, 6, 10, []int64{6, 5}}, {hill, 5, 40, []int64{5, 6}}, {hill, 2, 40, []int64{2, 3, 4}},
		{hill, 4, -9, []int64{4, 3, 2}}, {hill, 1, -9, []int64{1, 2}},
		{alike, 1, 0, []int64{1, 3, 2}}, {alike, 2, 0, []int64{2}}, {alike, 3, 0, []int64{3, 2}}, {alike, 4, 0, []int64{4}}, {alike, 5, 0, []int64{5, 3, 2}},
		{lineWeb([]int64{5}), 1, 9, []int64{1}},
		// One that is nearer is passed by for one that is nearer still.
		{lineWeb([]int64{0, 4, 6, 5, 9}, [2]int64{1, 2}, [2]int64{1, 3}, [2]int64{1, 4}, [2]int64{2, 5}), 1, 9, []int64{1, 3}},
		{lineWeb([]int64{0, 4, 3, 2, 9}, [2]int64{1, 2}, [2]int64{1, 3}, [2]int64{1, 4}, [2]int64{2, 5}), 1, 9, []int64{1, 2, 5}},
	} {
		walks(t, c.w, c.from, []int64{c.q}, c.want)
	}
}

func TestBeamOrdinary(t *testing.T) {
	hill := hillWeb()
	first, last := []impl.Hit{{Id: 3}, {Id: 4, Far: 1}, {Id: 1, Far: 100}, {Id: 2, Far: 225}}, []impl.Hit{{Id: 5, Far: 400}, {Id: 6, Far: 441}}
	// The way to 5 goes over 4, which is farther than all: only who is wide
	// enough to open it comes there.
	far := lineWeb([]int64{20, 21, 22, 90, 0}, [2]int64{1, 2}, [2]int64{1, 3}, [2]int64{1, 4}, [2]int64{4, 5})
	for _, c := range []struct {
		w             impl.Web
		from, q, wide int64
		want          []impl.Hit
	}{
		{hill, 1, 10, 1, []impl.Hit{{Id: 1, Far: 100}}}, {hill, 1, 10, 2, first[:2]}, {hill, 1, 10, 3, first[:3]}, {hill, 1, 10, 4, first}, {hill, 1, 10, 60, first},
		{hill, 2, 10, 1, first[:1]}, {hill, 2, 10, 2, first[:2]}, {hill, 3, 10, 1, first[:1]}, {hill, 4, 10, 60, first},
		{hill, 6, 10, 1, last[:1]}, {hill, 6, 10, 2, last}, {hill, 5, 10, 60, last},
		{far, 1, 0, 1, []impl.Hit{{Id: 1, Far: 400}}},
		{far, 1, 0, 3, []impl.Hit{{Id: 1, Far: 400}, {Id: 2, Far: 441}, {Id: 3, Far: 484}}},
		{far, 1, 0, 4, []impl.Hit{{Id: 5}, {Id: 1, Far: 400}, {Id: 2, Far: 441}, {Id: 3, Far: 484}}},
		{far, 1, 0, 5, []impl.Hit{{Id: 5}, {Id: 1, Far: 400}, {Id: 2, Far: 441}, {Id: 3, Far: 484}, {Id: 4, Far: 8100}}},
		{lineWeb([]int64{5}), 1, 9, 1, []impl.Hit{{Id: 1, Far: 16}}}, {lineWeb([]int64{5}), 1, 9, 60, []impl.Hit{{Id: 1, Far: 16}}},
		// Seen but not opened is told too.
		{lineWeb([]int64{1, 2, 5, 6}, [2]int64{1, 2}, [2]int64{2, 3}, [2]int64{3, 4}), 3, 0, 2, []impl.Hit{{Id: 1, Far: 1}, {Id: 2, Far: 4}}},
		// Alike ones by Id; of these the one with the greater Id is out.
		{lineWeb([]int64{9, 3, -3, 3}, [2]int64{1, 4}, [2]int64{1, 3}, [2]int64{1, 2}), 1, 0, 2, []impl.Hit{{Id: 2, Far: 9}, {Id: 3, Far: 9}}},
	} {
		beams(t, c.w, c.from, []int64{c.q}, c.wide, c.want)
	}
}

func TestIslandsOrdinary(t *testing.T) {
	five := []int64{0, 1, 2, 3, 4}
	for _, c := range []struct {
		w    impl.Web
		want int64
	}{
		{impl.Web{}, 0}, {impl.Web{Marks: []impl.Mark{}, Links: [][]int64{}}, 0},
		{lineWeb([]int64{5}), 1}, {lineWeb([]int64{5, 6}), 2}, {lineWeb([]int64{5, 6}, [2]int64{1, 2}), 1},
		{lineWeb(five), 5}, {lineWeb(five, [2]int64{1, 5}), 4}, {lineWeb(five, [2]int64{1, 5}, [2]int64{2, 4}), 3},
		{lineWeb(five, [2]int64{1, 5}, [2]int64{2, 4}, [2]int64{3, 4}), 2}, {lineWeb(five, [2]int64{1, 5}, [2]int64{2, 4}, [2]int64{3, 4}, [2]int64{1, 2}), 1},
		{lineWeb(five, [2]int64{1, 2}, [2]int64{2, 3}, [2]int64{1, 3}), 3}, {lineWeb(five, allPairs(risingIds(1, 5))...), 1},
		{hillWeb(), 2},
		{webOf(marksOf(risingIds(1, impl.MaxMarks), 3, 4)), impl.MaxMarks},
		{webOf(marksOf(risingIds(1, impl.MaxMarks), 3, 4), pathPairs(mixed(walkOf(1), risingIds(1, impl.MaxMarks)))...), 1},
	} {
		islands(t, c.w, c.want)
	}
}

func TestFeelByItsWords(t *testing.T) {
	var some, parted int
	for _, w := range manyWebs() {
		if !impl.WebOk(w) || !webIn(w) {
			t.Fatalf("WebOk(%v) is %t", w, impl.WebOk(w))
		}
		want := islandsIn(w)
		islands(t, w, want)
		if want > 1 && want < int64(len(w.Marks)) {
			parted++
		}
	}
	eachAsked(141, func(w impl.Web, from int64, q []int64) {
		walks(t, w, from, q, walkIn(w, from, q))
		for _, wide := range []int64{1, 2, 3, 7, impl.MaxMarks} {
			want := beamIn(w, from, q, wide)
			beams(t, w, from, q, wide, want)
			if !slices.Equal(want, upTo(allHits(w.Marks, q), int(wide))) {
				some++
			}
		}
	})
	if some < 10000 || parted < 200 {
		t.Errorf("%d tell less than all, %d webs of several islands", some, parted)
	}
}

// Promise 14: each step of a Walk goes over a link and is ahead of the one
// before it, and at its end none that is linked is ahead.
func TestWalkComesNearer(t *testing.T) {
	var none, several, long, alike int
	eachAsked(142, func(w impl.Web, from int64, q []int64) {
		way := impl.Walk(w, from, q)
		if len(way) == 0 || way[0] != from {
			t.Fatalf("Walk(%v, %d, %v) = %v", w, from, q, way)
		}
		for i := 1; i < len(way); i++ {
			here, before := hitIn(w, way[i], q), hitIn(w, way[i-1], q)
			if !slices.Contains(linksOf(w, way[i-1]), way[i]) || byOrder(here, before) >= 0 {
				t.Fatalf("Walk(%v, %d, %v) = %v: a step from %v to %v", w, from, q, way, before, here)
			}
			if here.Far == before.Far {
				alike++
			}
		}
		end := way[len(way)-1]
		for _, h := range hitsAmong(w, linksOf(w, end), q) {
			if byOrder(h, hitIn(w, end, q)) < 0 {
				t.Fatalf("Walk(%v, %d, %v) = %v: %v is ahead of its end", w, from, q, way, h)
			}
		}
		switch {
		case len(way) == 1:
			none++
		case len(way) > 4:
			long++
		default:
			several++
		}
	})
	if none < 1000 || several < 1000 || long < 100 || alike < 100 {
		t.Errorf("%d of no step, %d of some, %d of many, %d steps to one as far", none, several, long, alike)
	}
}

// Each step is the first of those linked, not only one that is nearer.
func TestWalkTakesTheFirst(t *testing.T) {
	eachAsked(143, func(w impl.Web, from int64, q []int64) {
		way := impl.Walk(w, from, q)
		for i := 1; i < len(way); i++ {
			if first := hitsAmong(w, linksOf(w, way[i-1]), q)[0]; first.Id != way[i] {
				t.Fatalf("Walk(%v, %d, %v) = %v: %v is the first about %d", w, from, q, way, first, way[i-1])
			}
		}
	})
}

// Promise 14: a Beam as wide as there are marks tells all of the island of
// from and no others, with their true distances, in order.
func TestBeamTellsTheIsland(t *testing.T) {
	var all, some int
	eachAsked(144, func(w impl.Web, from int64, q []int64) {
		island := islandIn(w, from)
		want := hitsAmong(w, island, q)
		for _, wide := range []int64{int64(len(island)), int64(len(w.Marks)), int64(len(w.Marks)+impl.MaxMarks) / 2, impl.MaxMarks} {
			beams(t, w, from, q, wide, want)
		}
		if len(island) == len(w.Marks) {
			all++
		} else {
			some++
		}
	})
	if all < 1000 || some < 1000 {
		t.Errorf("%d islands of all, %d of some", all, some)
	}
}

// Whatever is told by a Beam is of the island, with its true distance, in
// order, and its first is not behind the end of a Walk.
func TestBeamTellsTheTruth(t *testing.T) {
	eachAsked(145, func(w impl.Web, from int64, q []int64) {
		all := hitsAmong(w, islandIn(w, from), q)
		way := impl.Walk(w, from, q)
		end := hitIn(w, way[len(way)-1], q)
		for _, wide := range counts(len(w.Marks)) {
			g := impl.Beam(w, from, q, wide)
			if len(g) == 0 || int64(len(g)) > wide || !impl.HitsOk(g) || byOrder(g[0], end) > 0 {
				t.Fatalf("Beam(%v, %d, %v, %d) = %v", w, from, q, wide, g)
			}
			for _, h := range g {
				if !slices.Contains(all, h) {
					t.Fatalf("Beam(%v, %d, %v, %d) = %v: %v is none of %v", w, from, q, wide, g, h, all)
				}
			}
		}
		beams(t, w, from, q, 1, []impl.Hit{end})
	})
}

// The marks of an island are those that a Beam over all of it tells, whichever
// it starts from; there are as many islands as Beams that tell of unlike ones.
func TestIslandsAreWhatBeamsTell(t *testing.T) {
	for _, w := range manyWebs() {
		told, q, parts := []int64{}, make([]int64, long(w.Marks)), int64(0)
		for _, m := range w.Marks {
			if slices.Contains(told, m.Id) {
				continue
			}
			parts++
			for _, h := range impl.Beam(w, m.Id, q, impl.MaxMarks) {
				if slices.Contains(told, h.Id) {
					t.Fatalf("of %v %d is told twice", w, h.Id)
				}
				told = append(told, h.Id)
			}
		}
		if len(told) != len(w.Marks) {
			t.Fatalf("of %v only %v are told", w, told)
		}
		islands(t, w, parts)
	}
}

// grows asks for a web with one more mark: right, the mark linked to just the
// first most Hits of Nearest and they to it, all other links as they were.
func grows(t *testing.T, w impl.Web, m impl.Mark, most int64) impl.Web {
	t.Helper()
	g, ok := impl.Linked(w, m, most)
	if !ok || !impl.WebOk(g) || !webIn(g) {
		t.Fatalf("Linked(%v, %v, %d) = %v, %t", w, m, most, g, ok)
	}
	many := len(w.Marks)
	if len(g.Marks) != many+1 || !sameMark(g.Marks[many], m) || !slices.EqualFunc(g.Marks[:many], w.Marks, sameMark) {
		t.Fatalf("Linked(%v, %v, %d) = %v: other marks", w, m, most, g)
	}
	near := []int64{}
	for _, h := range impl.Nearest(w.Marks, m.At, most) {
		near = append(near, h.Id)
	}
	slices.Sort(near)
	if !slices.Equal(g.Links[many], near) || len(near) != min(many, int(most)) {
		t.Fatalf("Linked(%v, %v, %d) = %v: the mark is not linked to %v", w, m, most, g, near)
	}
	for i, old := range w.Marks {
		links := slices.Clone(w.Links[i])
		if slices.Contains(near, old.Id) {
			links = append(links, m.Id)
		}
		if !slices.Equal(g.Links[i], links) {
			t.Fatalf("Linked(%v, %v, %d) = %v: %d is not linked to %v", w, m, most, g, old.Id, links)
		}
	}
	if !sameWeb(g, linkedIn(w, m, most)) {
		t.Fatalf("Linked(%v, %v, %d) = %v", w, m, most, g)
	}
	return g
}

func TestLinkedOneAfterTheOther(t *testing.T) {
	next := walkOf(146)
	for n := 1; n <= 4; n++ {
		for most := int64(1); most <= mostLinked; most++ {
			for i, count := range []int{1, 2, 7, 8, 9, 10, 25, impl.MaxMarks} {
				w, wide := impl.Web{}, []int64{0, 1, 5, 40, 1000}[(i+n)%5]
				for _, m := range someMarks(next, count, n, wide) {
					w = grows(t, w, m, most)
					islands(t, w, 1)
				}
			}
		}
	}
}

// A web is grown with a most that changes from mark to mark, and marks are
// linked into webs that were never grown.
func TestLinkedIntoAnyWeb(t *testing.T) {
	next := walkOf(147)
	for n := 1; n <= 4; n++ {
		w := impl.Web{}
		for _, m := range someMarks(next, impl.MaxMarks, n, 20) {
			w = grows(t, w, m, 1+next(mostLinked))
		}
	}
	for _, w := range manyWebs() {
		at := places(next, w.Marks, long(w.Marks))
		for _, most := range []int64{1, 2, mostLinked - 1, mostLinked} {
			m := lastMark(w, at[next(int64(len(at)))]...)
			if len(w.Marks) == impl.MaxMarks {
				notLinked(t, w, m, most)
			} else {
				grows(t, w, m, most)
			}
		}
	}
}

func TestFeelEmptyWeb(t *testing.T) {
	for _, empty := range []impl.Web{{}, {Marks: []impl.Mark{}, Links: [][]int64{}}, {Marks: make([]impl.Mark, 0, 3), Links: make([][]int64, 0, 3)}} {
		islands(t, empty, 0)
		for n := 1; n <= 4; n++ {
			q := make([]int64, n)
			for _, from := range []int64{0, 1, -1, impl.MaxId, least, greatest} {
				notFelt(t, empty, from, q)
			}
			for most := int64(1); most <= mostLinked; most++ {
				for _, id := range []int64{1, 2, 77, impl.MaxId} {
					w := grows(t, empty, impl.Mark{Id: id, At: q}, most)
					islands(t, w, 1)
					walks(t, w, id, q, []int64{id})
					beams(t, w, id, q, 1, []impl.Hit{{Id: id}})
				}
			}
		}
	}
}

// Of marks that are as far the less Ids are linked.
func TestLinkedOfAlike(t *testing.T) {
	for _, c := range []struct {
		at, numbers []int64
		most        int64
		links       []int64
	}{
		{[]int64{0}, []int64{3, -3, 3, -3}, 1, []int64{1}},
		{[]int64{0}, []int64{3, -3, 3, -3}, 3, []int64{1, 2, 3}},
		{[]int64{0}, []int64{4, -3, 3, -3, 4}, 4, []int64{1, 2, 3, 4}},
		{[]int64{0}, []int64{4, 4, -3, 3, 2}, 2, []int64{3, 5}},
		{[]int64{0}, []int64{9, 9, 9, 9, 9, 9, 9, 9, 9, 9}, 8, []int64{1, 2, 3, 4, 5, 6, 7, 8}},
		{[]int64{0}, []int64{9, 8, 7, 6, 5, 4, 3, 2, 1, 0}, 8, []int64{3, 4, 5, 6, 7, 8, 9, 10}},
		{[]int64{9}, []int64{9, 9}, 8, []int64{1, 2}},
	} {
		w := lineWeb(c.numbers)
		g := grows(t, w, lastMark(w, c.at...), c.most)
		if !slices.Equal(g.Links[len(c.numbers)], c.links) {
			t.Errorf("at %v, of %v, by %d: %v, not %v", c.at, c.numbers, c.most, g.Links, c.links)
		}
	}
}

func TestWebOfAllMarks(t *testing.T) {
	next := walkOf(148)
	for n := 1; n <= 4; n++ {
		for _, w := range websOf(next, someMarks(next, impl.MaxMarks, n, 50)) {
			islands(t, w, islandsIn(w))
			for most := int64(1); most <= mostLinked; most++ {
				notLinked(t, w, lastMark(w, make([]int64, n)...), most)
				notLinked(t, w, impl.Mark{Id: impl.MaxId, At: make([]int64, n)}, most)
			}
		}
		// The last one that has room, and its Id the last one that there is.
		for _, w := range websOf(next, someMarks(next, impl.MaxMarks-1, n, 50)) {
			full := grows(t, w, impl.Mark{Id: impl.MaxId, At: make([]int64, n)}, 1)
			islands(t, full, islandsIn(full))
		}
	}
}

func TestBeamEachWide(t *testing.T) {
	next := walkOf(149)
	for _, list := range [][]impl.Mark{someMarks(next, 1, 2, 9), someMarks(next, 12, 2, 9), someMarks(next, impl.MaxMarks, 2, 30)} {
		for _, w := range websOf(next, list) {
			from, q := list[len(list)-1].Id, []int64{3, -4}
			for wide := int64(1); wide <= impl.MaxMarks; wide++ {
				beams(t, w, from, q, wide, beamIn(w, from, q, wide))
			}
			for _, wide := range noCounts {
				beams(t, w, from, q, wide, nil)
			}
		}
	}
}

func TestFeelWrongFrom(t *testing.T) {
	next := walkOf(159)
	for _, w := range manyWebs() {
		q, ids := make([]int64, long(w.Marks)), idsOfMarks(w.Marks)
		for _, from := range []int64{0, -1, impl.MaxId, impl.MaxId + 1, 1 << 32, least, greatest} {
			notFelt(t, w, from, q)
		}
		for _, id := range startsOf(next, w) {
			for _, from := range []int64{id - 1, id + 1, -id, id + 1<<32} {
				if !slices.Contains(ids, from) {
					notFelt(t, w, from, q)
				}
			}
		}
	}
}

func TestFeelWrongPlace(t *testing.T) {
	next := walkOf(150)
	for n := 1; n <= 4; n++ {
		for _, count := range []int{1, 2, 11} {
			for _, w := range websOf(next, someMarks(next, count, n, 9)) {
				for _, q := range noPlaces(n) {
					notFelt(t, w, w.Marks[0].Id, q)
					notFelt(t, w, w.Marks[count-1].Id, q)
				}
			}
		}
	}
}

func TestLinkedWrongMark(t *testing.T) {
	next := walkOf(151)
	for n := 1; n <= 4; n++ {
		for _, count := range []int{1, 2, 11, impl.MaxMarks - 1} {
			for _, w := range websOf(next, someMarks(next, count, n, 9)) {
				at, ids := make([]int64, n), idsOfMarks(w.Marks)
				last := ids[count-1]
				wrong := append(ids, last-1, 0, -1, -last, impl.MaxId+1, impl.MaxId+2, 1<<32+last, least, least+1, greatest)
				for _, id := range wrong {
					notLinked(t, w, impl.Mark{Id: id, At: at}, 1+next(mostLinked))
				}
				for _, place := range noPlaces(n) {
					notLinked(t, w, lastMark(w, place...), 1+next(mostLinked))
				}
				for _, most := range noLinkCounts {
					notLinked(t, w, lastMark(w, at...), most)
				}
				grows(t, w, lastMark(w, at...), 1+next(mostLinked))
			}
		}
	}
	// Nothing is behind the last Id that there is.
	full := webOf(marksOf([]int64{5, impl.MaxId}, 1, 2))
	for _, id := range []int64{1, 5, 6, impl.MaxId, impl.MaxId + 1} {
		notLinked(t, full, impl.Mark{Id: id, At: []int64{0, 0}}, 1)
	}
}

func TestLinkedWrongIntoEmpty(t *testing.T) {
	for _, id := range []int64{0, -1, impl.MaxId + 1, 1 << 32, 1<<32 + 1, least, greatest} {
		notLinked(t, impl.Web{}, impl.Mark{Id: id, At: []int64{1, 2}}, 1)
	}
	for _, p := range noPoints() {
		notLinked(t, impl.Web{}, impl.Mark{Id: 1, At: p}, 1)
	}
	for _, most := range noLinkCounts {
		notLinked(t, impl.Web{}, impl.Mark{Id: 1, At: []int64{1, 2}}, most)
	}
	notLinked(t, impl.Web{}, impl.Mark{}, 1)
}

func TestWebWrongMarks(t *testing.T) {
	for _, list := range noMarks() {
		notWeb(t, impl.Web{Marks: list, Links: make([][]int64, len(list))})
		notWeb(t, impl.Web{Marks: list})
		if len(list) > 1 && list[0].Id != list[1].Id {
			links := make([][]int64, len(list))
			links[0], links[1] = []int64{list[1].Id}, []int64{list[0].Id}
			notWeb(t, impl.Web{Marks: list, Links: links})
		}
	}
}

func TestWebOtherCountOfLinks(t *testing.T) {
	for _, empty := range [][][]int64{{nil}, {{}}, {{1}}, {{1}, {2}}, make([][]int64, impl.MaxMarks), make([][]int64, 1000)} {
		notWeb(t, impl.Web{Links: empty})
	}
	for _, w := range manyWebs() {
		many := len(w.Marks)
		if many == 0 || many > 9 {
			continue
		}
		notWeb(t, impl.Web{Marks: w.Marks})
		notWeb(t, impl.Web{Marks: w.Marks, Links: [][]int64{}})
		for _, links := range [][][]int64{w.Links[:many-1], w.Links[1:], append(copyLists(w.Links), nil), append(copyLists(w.Links), []int64{}), append(copyLists(w.Links), w.Links[0]), slices.Insert(copyLists(w.Links), 0, nil), slices.Repeat(w.Links, 2)} {
			notWeb(t, impl.Web{Marks: w.Marks, Links: links})
		}
		notWeb(t, impl.Web{Marks: w.Marks[1:], Links: w.Links})
	}
}

// withLinks has the web with another list of links at one place.
func withLinks(w impl.Web, at int, links ...int64) impl.Web {
	other := copyWeb(w)
	other.Links[at] = links
	return other
}

// wrongLinks are webs each with one list of links that is not right: of one
// that is left out, doubled, or in another place, of one too many, of its own
// Id, and of Ids that no mark has.
func wrongLinks(w impl.Web) []impl.Web {
	ids, all := idsOfMarks(w.Marks), []impl.Web{}
	for at, links := range w.Links {
		for i, id := range links {
			double := slices.Insert(slices.Clone(links), i, id)
			all = append(all, withLinks(w, at, without(links, i)...), withLinks(w, at, double...))
			if i > 0 {
				swapped := slices.Clone(links)
				swapped[i-1], swapped[i] = swapped[i], swapped[i-1]
				all = append(all, withLinks(w, at, swapped...), withLinks(w, at, append(without(links, i-1), links[i-1])...))
			}
		}
		others := []int64{0, -1, impl.MaxId + 1, -ids[at], ids[at] + 1<<32, least, greatest}
		for _, id := range ids {
			others = append(others, id, id-1, id+1)
		}
		for _, id := range others {
			if !slices.Contains(links, id) {
				more := append(slices.Clone(links), id)
				slices.Sort(more)
				all = append(all, withLinks(w, at, more...))
			}
		}
	}
	return all
}

// Each of them is wrong by one list alone.
func TestWebWrongLinks(t *testing.T) {
	next, wrong := walkOf(152), 0
	for n := 1; n <= 4; n++ {
		for _, count := range []int{1, 2, 3, 5, 7} {
			for _, w := range websOf(next, someMarks(next, count, n, 9)) {
				for _, other := range wrongLinks(w) {
					if webIn(other) {
						t.Fatalf("%v is right", other)
					}
					notWeb(t, other)
					wrong++
				}
			}
		}
	}
	for _, other := range wrongLinks(webGrown(someMarks(next, impl.MaxMarks, 2, 30), 2)) {
		if impl.WebOk(other) {
			t.Fatalf("WebOk(%v) is true", other)
		}
	}
	if wrong < 5000 {
		t.Errorf("%d wrong ones", wrong)
	}
}

// Links that go both ways but are wrong all the same.
func TestWebWrongBothWays(t *testing.T) {
	three := marksOf([]int64{2, 5, 9}, 1, 2)
	for _, links := range [][][]int64{
		{{5, 5}, {2, 2}, {}}, {{5, 9}, {2, 9}, {5, 2}}, {{9, 5}, {9, 2}, {5, 2}}, {{9, 5}, {2}, {2}}, {{5}, {9, 2}, {5}},
		{{2}, {}, {}}, {{}, {5}, {}}, {{}, {}, {9}}, {{2, 5}, {2}, {}}, {{5}, {2, 5, 9}, {5}}, {{2, 5, 9}, {2, 5, 9}, {2, 5, 9}},
		{{5, 9}, {2}, {}}, {{5}, {9}, {2}}, {{9}, {2}, {5}}, {{}, {}, {2}}, {{9}, {}, {}}, {{5, 9}, {}, {}}, {{}, {2}, {2}},
		{{1}, {0}, {0}}, {{0}, {}, {}}, {{1}, {}, {}}, {{3}, {}, {}}, {{6}, {}, {}}, {{10}, {}, {}}, {{-5}, {-2}, {}},
	} {
		notWeb(t, impl.Web{Marks: three, Links: links})
	}
	for _, links := range [][][]int64{{{}, {}, {}}, {nil, nil, nil}, {{5}, {2}, {}}, {{5, 9}, {2}, {2}}, {{5, 9}, {2, 9}, {2, 5}}, {nil, {9}, {5}}} {
		w := impl.Web{Marks: three, Links: links}
		islands(t, w, islandsIn(w))
	}
}

// Links longer than there are marks come to an end soon.
func TestWebManyLinks(t *testing.T) {
	two := marksOf([]int64{1, 2}, 1)
	for _, links := range [][][]int64{
		{slices.Repeat([]int64{2}, 200000), slices.Repeat([]int64{1}, 200000)},
		{slices.Repeat([]int64{2}, 200000), append(slices.Repeat([]int64{2}, 200000), 1)},
		{risingIds(2, 200000), append([]int64{1}, risingIds(3, 200000)...)},
		{make([]int64, 200000), {1}},
	} {
		notWeb(t, impl.Web{Marks: two, Links: links})
	}
}

// disturbed has the web with one thing changed, which may leave it right.
func disturbed(next func(int64) int64, w impl.Web) impl.Web {
	other, ids := copyWeb(w), idsOfMarks(w.Marks)
	at, id := next(int64(len(ids))), ids[next(int64(len(ids)))]
	switch next(4) {
	case 0:
		addLink(other, ids[at], id)
	case 1:
		other.Links[at] = upToNumbers(w.Links[at], 1)
	case 2:
		other.Links[at] = mixed(next, w.Links[at])
	default:
		other.Marks[at].Id += next(3)
	}
	return other
}

// Webs drawn near to what is right: some are, some are not.
func TestWebOkByItsWords(t *testing.T) {
	next := walkOf(153)
	right, wrong := 0, 0
	for range 20000 {
		list := someMarks(next, 1+int(next(6)), 1+int(next(4)), 9)
		w := webOf(list, drawnPairs(next, idsOfMarks(list), int(next(8)))...)
		for range next(3) {
			w = disturbed(next, w)
		}
		if !webIn(w) {
			notWeb(t, w)
			wrong++
			continue
		}
		islands(t, w, islandsIn(w))
		right++
	}
	if right < 3000 || wrong < 3000 {
		t.Errorf("%d right, %d wrong", right, wrong)
	}
}

// Several wrong inputs together give the same answers as one.
func TestFeelWrongTogether(t *testing.T) {
	wrong := impl.Web{Marks: marksOf([]int64{1, 2}, 3, 4), Links: [][]int64{{2}, {}}}
	for _, w := range []impl.Web{wrong, webOf(wrong.Marks, [2]int64{1, 2})} {
		for _, q := range [][]int64{nil, {1}, {1, 1001}, {1, 2, 3}} {
			for _, from := range []int64{0, 1, 3} {
				walks(t, w, from, q, nil)
				for _, wide := range []int64{0, 1, impl.MaxMarks + 1} {
					beams(t, w, from, q, wide, nil)
				}
			}
			for _, id := range []int64{0, 2, 3, impl.MaxId + 1} {
				for _, most := range []int64{0, 1, mostLinked + 1} {
					notLinked(t, w, impl.Mark{Id: id, At: q}, most)
				}
			}
		}
	}
}

// roomyWeb is the web with spare room behind all of its lists, and a look at
// the whole of that memory.
func roomyWeb(w impl.Web) (impl.Web, func() []int64) {
	marks, whole := roomyMarks(w.Marks)
	links, look := roomyCenters(w.Links)
	return impl.Web{Marks: marks, Links: links}, func() []int64 { return append(memory(whole), look()...) }
}

// spoilWeb writes over all lists of an answer and the room behind them.
func spoilWeb(w impl.Web) {
	marks := w.Marks[:cap(w.Marks)]
	for i, m := range marks {
		spoilNumbers(m.At)
		marks[i] = impl.Mark{Id: -77, At: []int64{-78}}
	}
	spoilLists(w.Links)
}

// feelStays asks all functions, writes over what they answer, and looks
// whether an argument, or the room behind it, has changed.
func feelStays(t *testing.T, w impl.Web, m impl.Mark, from int64, q []int64, most, wide int64) {
	t.Helper()
	own, look := roomyWeb(w)
	at, wholeAt := roomy(m.At)
	ownQ, wholeQ := roomy(q)
	kept, keptAt, keptQ := look(), slices.Clone(wholeAt), slices.Clone(wholeQ)
	impl.WebOk(own)
	impl.Islands(own)
	grown, _ := impl.Linked(own, impl.Mark{Id: m.Id, At: at}, most)
	spoilWeb(grown)
	spoilNumbers(impl.Walk(own, from, ownQ))
	spoil(impl.Beam(own, from, ownQ, wide))
	if !slices.Equal(look(), kept) || !slices.Equal(wholeAt, keptAt) || !slices.Equal(wholeQ, keptQ) {
		t.Fatalf("%v, %v, %v became %v, %v, %v", w, m, q, own, at, ownQ)
	}
}

func TestFeelArgumentsStay(t *testing.T) {
	next := walkOf(154)
	eachAsked(155, func(w impl.Web, from int64, q []int64) {
		feelStays(t, w, lastMark(w, q...), from, q, 1+next(mostLinked), 1+next(impl.MaxMarks))
	})
	for i, w := range manyWebs() {
		q, from := make([]int64, long(w.Marks)), int64(1)
		for _, m := range w.Marks {
			from = m.Id
		}
		feelStays(t, w, impl.Mark{Id: from, At: q}, from+1, q, 1, 1)
		feelStays(t, w, lastMark(w, q...), from, q, 0, 0)
		feelStays(t, w, lastMark(w, q...), from, q, mostLinked+1, impl.MaxMarks+1)
		feelStays(t, w, lastMark(w, append(q, 0)...), from, append(q, 0), 1, 1)
		if len(w.Marks) > 7 || i%4 > 0 {
			continue
		}
		for _, other := range wrongLinks(w) {
			feelStays(t, other, lastMark(w, q...), from, q, 2, 2)
		}
		feelStays(t, impl.Web{Marks: w.Marks}, lastMark(w, q...), from, q, 2, 2)
	}
	for _, list := range noMarks() {
		feelStays(t, impl.Web{Marks: list, Links: make([][]int64, len(list))}, impl.Mark{Id: 9, At: []int64{1, 2}}, 1, []int64{1, 2}, 2, 2)
	}
	for _, p := range noPoints() {
		feelStays(t, hillWeb(), impl.Mark{Id: 9, At: p}, 1, p, 2, 2)
	}
}

// What is written over arguments or another answer changes no answer.
func TestFeelAnswersAreNew(t *testing.T) {
	next := walkOf(156)
	eachAsked(157, func(w impl.Web, from int64, q []int64) {
		most, wide := 1+next(mostLinked), 1+next(impl.MaxMarks)
		own, _ := roomyWeb(w)
		at, _ := roomy(q)
		m := lastMark(w, at...)
		grown, ok := impl.Linked(own, m, most)
		way, told := impl.Walk(own, from, at), impl.Beam(own, from, at, wide)
		again, _ := impl.Linked(own, m, most)
		spoilWeb(again)
		spoilNumbers(impl.Walk(own, from, at))
		spoil(impl.Beam(own, from, at, wide))
		spoilWeb(own)
		spoilNumbers(at)
		if ok && !sameWeb(grown, linkedIn(w, lastMark(w, q...), most)) {
			t.Fatalf("of %v and %v it became %v", w, q, grown)
		}
		if !slices.Equal(way, walkIn(w, from, q)) || !slices.Equal(told, beamIn(w, from, q, wide)) {
			t.Fatalf("of %v, %d, %v they became %v and %v", w, from, q, way, told)
		}
	})
}

// listsIn are all lists of numbers that a web has.
func listsIn(w impl.Web) [][]int64 {
	lists := slices.Clone(w.Links)
	for _, m := range w.Marks {
		lists = append(lists, m.At)
	}
	return lists
}

// ownLinks writes over one list of an answer after the other, with the room
// behind it, forth and back: all others stay.
func ownLinks(t *testing.T, w impl.Web, m impl.Mark, most int64) {
	t.Helper()
	want := listsIn(linkedIn(w, m, most))
	one, _ := impl.Linked(w, m, most)
	other, _ := impl.Linked(w, m, most)
	forth, back := listsIn(one), listsIn(other)
	for i := range want {
		last := len(want) - 1 - i
		if !sameCells(forth[i:], want[i:]) || !sameCells(back[:last+1], want[:last+1]) {
			t.Fatalf("Linked(%v, %v, %d): %v or %v, not %v", w, m, most, forth[i:], back[:last+1], want)
		}
		spoilNumbers(forth[i])
		spoilNumbers(back[last])
	}
}

func TestLinkedListsAreApart(t *testing.T) {
	next := walkOf(158)
	for _, w := range manyWebs() {
		if len(w.Marks) < impl.MaxMarks {
			ownLinks(t, w, lastMark(w, make([]int64, long(w.Marks))...), 1+next(mostLinked))
		}
	}
	// Marks at one memory, links that are one memory, and lists that lie one
	// behind the other in it.
	for n := 1; n <= 4; n++ {
		one, _ := roomy(slices.Repeat([]int64{5}, n))
		marks := []impl.Mark{{Id: 1, At: one}, {Id: 2, At: one}, {Id: 3, At: one}, {Id: 4, At: one}}
		low, high := []int64{1, 2, 3, 4}[:2], []int64{3, 4}
		run := []int64{3, 4, 3, 4, 1, 2, 1, 2}
		for _, links := range [][][]int64{{high, high, low, low}, {run[:2], run[2:4], run[4:6], run[6:]}, {run[:0], run[1:1], run[2:2], run[3:3]}} {
			for most := int64(1); most <= mostLinked; most++ {
				ownLinks(t, impl.Web{Marks: marks, Links: links}, impl.Mark{Id: 5, At: one}, most)
			}
		}
		if !slices.Equal(one, slices.Repeat([]int64{5}, n)) || !slices.Equal(low[:4], []int64{1, 2, 3, 4}) || !slices.Equal(run, []int64{3, 4, 3, 4, 1, 2, 1, 2}) {
			t.Errorf("the arguments became %v, %v, %v", one, low[:4], run)
		}
	}
}

// What is asked from, the place and a mark's At may be one memory.
func TestFeelOfOneMemory(t *testing.T) {
	w := hillWeb()
	own, look := roomyWeb(w)
	kept := look()
	for i, m := range own.Marks {
		walks(t, own, m.Id, own.Marks[0].At, walkIn(w, m.Id, w.Marks[0].At))
		beams(t, own, m.Id, m.At, 3, beamIn(w, m.Id, w.Marks[i].At, 3))
		spoil(impl.Beam(own, m.Id, m.At, impl.MaxMarks))
		spoilNumbers(impl.Walk(own, m.Id, m.At))
		grown := grows(t, own, impl.Mark{Id: 7, At: m.At}, 2)
		spoilWeb(grown)
	}
	if !slices.Equal(look(), kept) {
		t.Errorf("%v became %v", w, own)
	}
}
