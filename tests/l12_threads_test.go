package tests

import (
	"cmp"
	"slices"
	"testing"

	"loop.example/g00273/impl"
)

// longest is the greatest Long that Total takes.
const longest = 1 << 40

func thread(a, b, long int64) impl.Thread { return impl.Thread{A: a, B: b, Long: long} }

func byThread(a, b impl.Thread) int {
	return cmp.Or(cmp.Compare(a.Long, b.Long), cmp.Compare(a.A, b.A), cmp.Compare(a.B, b.B))
}

// threadOf is the thread of two marks, whichever is named first.
func threadOf(a, b impl.Mark, kind int64) impl.Thread {
	return thread(min(a.Id, b.Id), max(a.Id, b.Id), apart(a.At, b.At, kind))
}

// pairsIn has the threads of any two marks, in order.
func pairsIn(list []impl.Mark, kind int64) []impl.Thread {
	all := []impl.Thread{}
	for i, a := range list {
		for _, b := range list[:i] {
			all = append(all, threadOf(a, b, kind))
		}
	}
	slices.SortFunc(all, byThread)
	return all
}

// labels has under each Id the least one that it is tied to.
type labels map[int64]int64

func (l labels) tie(th impl.Thread) {
	low, high := min(l[th.A], l[th.B]), max(l[th.A], l[th.B])
	for id, label := range l {
		if label == high {
			l[id] = low
		}
	}
}

func (l labels) parts(th impl.Thread) bool { return l[th.A] != l[th.B] }

func labelled(list []impl.Mark, threads []impl.Thread) labels {
	l := labels{}
	for _, m := range list {
		l[m.Id] = m.Id
	}
	for _, th := range threads {
		l.tie(th)
	}
	return l
}

// threadsIn is Threads by the document's words.
func threadsIn(list []impl.Mark, kind int64) []impl.Thread {
	kept, l := []impl.Thread{}, labelled(list, nil)
	for _, th := range pairsIn(list, kind) {
		if l.parts(th) {
			kept = append(kept, th)
			l.tie(th)
		}
	}
	return kept
}

// tiedIn is Tied of right marks and a right kind, by the document's words.
func tiedIn(list []impl.Mark, threads []impl.Thread, kind int64) bool {
	pairs := pairsIn(list, kind)
	for _, th := range threads {
		if !slices.Contains(pairs, th) {
			return false
		}
	}
	for _, label := range labelled(list, threads) {
		if label != list[0].Id {
			return false
		}
	}
	return len(threads) == len(list)-1
}

func sumOfLong(threads []impl.Thread) int64 {
	sum := int64(0)
	for _, th := range threads {
		sum += th.Long
	}
	return sum
}

// groupsIn is Groups by the document's words.
func groupsIn(list []impl.Mark, kind int64, k int) [][]int64 {
	return groupsTied(list, threadsIn(list, kind)[:len(list)-k])
}

func groupsTied(list []impl.Mark, threads []impl.Thread) [][]int64 {
	l, groups := labelled(list, threads), [][]int64{}
	for _, first := range list {
		group := []int64{}
		for _, m := range list {
			if l[m.Id] == first.Id {
				group = append(group, m.Id)
			}
		}
		if len(group) > 0 {
			groups = append(groups, group)
		}
	}
	return groups
}

// gapIn is Gap of two right groups or more, by the document's words.
func gapIn(list []impl.Mark, kind int64, groups [][]int64) int64 {
	gap, in := int64(greatest), map[int64]int{}
	for i, group := range groups {
		for _, id := range group {
			in[id] = i
		}
	}
	for i, a := range list {
		for _, b := range list[:i] {
			if in[a.Id] != in[b.Id] {
				gap = min(gap, apart(a.At, b.At, kind))
			}
		}
	}
	return gap
}

// mixed has the same in another order.
func mixed[T any](next func(int64) int64, list []T) []T {
	own := slices.Clone(list)
	for i := range own {
		j := next(int64(i + 1))
		own[i], own[j] = own[j], own[i]
	}
	return own
}

// mixedGroups has the same groups in another order, each in another order.
func mixedGroups(next func(int64) int64, groups [][]int64) [][]int64 {
	own := [][]int64{}
	for _, group := range mixed(next, groups) {
		own = append(own, mixed(next, group))
	}
	return own
}

func without[T any](list []T, at int) []T { return slices.Delete(slices.Clone(list), at, at+1) }

// eachFew has the lists of marks of which all choices can be gone through.
func eachFew(most int) [][]impl.Mark {
	return slices.DeleteFunc(fewMarks(), func(list []impl.Mark) bool { return len(list) > most })
}

// eachChoice goes through all choices of count of these threads.
func eachChoice(threads []impl.Thread, count int, do func(chosen []impl.Thread)) {
	chosen := []impl.Thread{}
	var choose func(from int)
	choose = func(from int) {
		if len(chosen) == count {
			do(chosen)
			return
		}
		for i := from; i < len(threads); i++ {
			chosen = append(chosen, threads[i])
			choose(i + 1)
			chosen = chosen[:len(chosen)-1]
		}
	}
	choose(0)
}

// eachGrouping goes through all ways of putting these Ids into groups.
func eachGrouping(ids []int64, do func(groups [][]int64)) {
	var put func(groups [][]int64, at int)
	put = func(groups [][]int64, at int) {
		if at == len(ids) {
			do(groups)
			return
		}
		for i := range groups {
			more := copyLists(groups)
			more[i] = append(more[i], ids[at])
			put(more, at+1)
		}
		put(append(copyLists(groups), []int64{ids[at]}), at+1)
	}
	put(nil, 0)
}

// pathOf ties each mark to the next one in the list.
func pathOf(list []impl.Mark, kind int64) []impl.Thread {
	path := []impl.Thread{}
	for i := 1; i < len(list); i++ {
		path = append(path, threadOf(list[i-1], list[i], kind))
	}
	return path
}

// starOf ties each mark to one of them.
func starOf(list []impl.Mark, at int, kind int64) []impl.Thread {
	star := []impl.Thread{}
	for i, m := range list {
		if i != at {
			star = append(star, threadOf(list[at], m, kind))
		}
	}
	return star
}

// grownOf ties each mark to one of those ahead of it in the list: to any, or
// to the one nearest.
func grownOf(next func(int64) int64, list []impl.Mark, near bool, kind int64) []impl.Thread {
	grown := []impl.Thread{}
	for i := 1; i < len(list); i++ {
		to := list[next(int64(i))]
		for _, m := range list[:i] {
			if near && apart(m.At, list[i].At, kind) < apart(to.At, list[i].At, kind) {
				to = m
			}
		}
		grown = append(grown, threadOf(to, list[i], kind))
	}
	return grown
}

// otherThreads are threads that tie all together, drawn in many ways.
func otherThreads(next func(int64) int64, list []impl.Mark, kind int64) [][]impl.Thread {
	loose, last := mixed(next, list), len(list)-1
	all := [][]impl.Thread{
		pathOf(list, kind), pathOf(loose, kind),
		starOf(list, 0, kind), starOf(list, last, kind), starOf(loose, 0, kind),
		grownOf(next, loose, false, kind), grownOf(next, mixed(next, list), false, kind),
		grownOf(next, list, true, kind), grownOf(next, loose, true, kind),
	}
	return append(all, exchanged(next, threadsIn(list, kind), list, kind)...)
}

// exchanged has the threads with another one in the place of some: of those
// that tie together what it leaves apart, the first by the order, and any.
func exchanged(next func(int64) int64, tree []impl.Thread, list []impl.Mark, kind int64) [][]impl.Thread {
	all := [][]impl.Thread{}
	for at := range tree {
		if at%7 != 0 && at != len(tree)-1 {
			continue
		}
		left := without(tree, at)
		l, others := labelled(list, left), []impl.Thread{}
		for _, th := range pairsIn(list, kind) {
			if l.parts(th) && th != tree[at] {
				others = append(others, th)
			}
		}
		if len(others) > 0 {
			other := others[next(int64(len(others)))]
			all = append(all, append(slices.Clone(left), others[0]), append(slices.Clone(left), other))
		}
	}
	return all
}

// otherGroups are k groups, drawn in many ways.
func otherGroups(next func(int64) int64, list []impl.Mark, kind int64, k int) [][][]int64 {
	ids := idsOfMarks(list)
	tree, star := threadsIn(list, kind), starOf(list, 0, kind)
	slices.SortFunc(star, byThread)
	all := [][][]int64{
		cut(ids, k), cut(mixed(next, ids), k), strewn(next, ids, k), strewn(next, ids, k),
		aboutChosen(list, kind, k),
		groupsTied(list, tree[k-1:]),
		groupsTied(list, mixed(next, tree)[k-1:]),
		groupsTied(list, star[:len(list)-k]),
		groupsTied(list, mixed(next, pathOf(list, kind))[k-1:]),
	}
	return append(all, moved(next, groupsTied(list, tree[:len(list)-k]))...)
}

// cut has the Ids in k runs of them.
func cut(ids []int64, k int) [][]int64 {
	groups := [][]int64{}
	for i := range k {
		groups = append(groups, slices.Clone(ids[i*len(ids)/k:(i+1)*len(ids)/k]))
	}
	return groups
}

// strewn has one Id in each group, and the others anywhere.
func strewn(next func(int64) int64, ids []int64, k int) [][]int64 {
	groups := make([][]int64, k)
	for i, id := range mixed(next, ids) {
		if i >= k {
			i = int(next(int64(k)))
		}
		groups[i] = append(groups[i], id)
	}
	return groups
}

// aboutChosen has each mark with the one nearest of those that Chosen tells.
func aboutChosen(list []impl.Mark, kind int64, k int) [][]int64 {
	chosen := impl.Chosen(list, int64(k), kind)
	centers, groups := withIds(list, chosen), make([][]int64, k)
	for _, m := range list {
		at, gaps := slices.Index(chosen, m.Id), []int64{}
		for _, c := range centers {
			gaps = append(gaps, apart(c.At, m.At, kind))
		}
		// One that is chosen stays, also where another lies at its place.
		if at < 0 {
			at = slices.Index(gaps, slices.Min(gaps))
		}
		groups[at] = append(groups[at], m.Id)
	}
	return groups
}

// moved has the groups with one Id in another group, and with two that have
// changed their places.
func moved(next func(int64) int64, groups [][]int64) [][][]int64 {
	all := [][][]int64{}
	if len(groups) < 2 {
		return all
	}
	for range 4 {
		own := mixedGroups(next, groups)
		i := slices.IndexFunc(own, func(group []int64) bool { return len(group) > 1 })
		if i < 0 {
			break
		}
		j := (i + 1) % len(own)
		turned := copyLists(own)
		turned[i][0], turned[j][0] = own[j][0], own[i][0]
		own[j] = append(own[j], own[i][0])
		own[i] = own[i][1:]
		all = append(all, own, turned)
	}
	return all
}

// ties asks for Threads and their Total, for Tied of them, and for Groups and
// their Gap with each k from 1 on.
func ties(t *testing.T, list []impl.Mark, kind int64, threads []impl.Thread, total int64, groups [][][]int64, gaps []int64) {
	t.Helper()
	if g := impl.Threads(list, kind); !slices.Equal(g, threads) {
		t.Errorf("Threads(%v, %d) = %v, not %v", list, kind, g, threads)
	}
	if g := impl.Total(threads); g != total {
		t.Errorf("Total(%v) = %d, not %d", threads, g, total)
	}
	if !impl.Tied(list, threads, kind) {
		t.Errorf("Tied(%v, %v, %d) is false", list, threads, kind)
	}
	for i := range list {
		if g := impl.Groups(list, kind, int64(i+1)); !sameCells(g, groups[i]) {
			t.Errorf("Groups(%v, %d, %d) = %v, not %v", list, kind, i+1, g, groups[i])
		}
		if g := impl.Gap(list, kind, groups[i]); g != gaps[i] {
			t.Errorf("Gap(%v, %d, %v) = %d, not %d", list, kind, groups[i], g, gaps[i])
		}
	}
}

// noTie asks all that are told of these marks and this kind for their fixed
// answers, with threads and groups that could be of other ones.
func noTie(t *testing.T, list []impl.Mark, kind int64) {
	t.Helper()
	if g := impl.Threads(list, kind); len(g) != 0 {
		t.Errorf("Threads(%v, %d) = %v", list, kind, g)
	}
	for _, k := range slices.Concat([]int64{1, 2, int64(len(list))}, wrongCounts(len(list))) {
		noGroups(t, list, kind, k)
	}
	path, ids := []impl.Thread{}, idsOfMarks(list)
	for i := 1; i < len(list); i++ {
		path = append(path, thread(ids[i-1], ids[i], longOfAny(list[i-1].At, list[i].At, kind)))
	}
	notTied(t, list, path, kind)
	for _, long := range []int64{-1, 0, 1} {
		all := slices.Clone(path)
		for i := range all {
			all[i].Long = long
		}
		notTied(t, list, all, kind)
	}
	notTied(t, list, nil, kind)
	half := len(ids) / 2
	for _, groups := range [][][]int64{nil, {}, {{}}, {{}, {}}, {ids}, {ids, {}}, {ids[:half], ids[half:]}, cut(ids, max(len(ids), 1))} {
		noGap(t, list, kind, groups)
	}
}

// longOfAny is what is between any two lists, as far as both go.
func longOfAny(a, b []int64, kind int64) int64 {
	n := min(len(a), len(b))
	if !slices.Contains(kinds, kind) {
		kind = impl.BySteps
	}
	return apart(a[:n], b[:n], kind)
}

func notTied(t *testing.T, list []impl.Mark, threads []impl.Thread, kind int64) {
	t.Helper()
	if impl.Tied(list, threads, kind) {
		t.Errorf("Tied(%v, %v, %d) is true", list, threads, kind)
	}
}

func noGroups(t *testing.T, list []impl.Mark, kind, k int64) {
	t.Helper()
	if g := impl.Groups(list, kind, k); len(g) != 0 {
		t.Errorf("Groups(%v, %d, %d) = %v", list, kind, k, g)
	}
}

func noGap(t *testing.T, list []impl.Mark, kind int64, groups [][]int64) {
	t.Helper()
	if g := impl.Gap(list, kind, groups); g != -1 {
		t.Errorf("Gap(%v, %d, %v) = %d", list, kind, groups, g)
	}
}

func TestThreadsOrdinary(t *testing.T) {
	one := []impl.Mark{{Id: 7, At: []int64{-3, 4}}}
	two := []impl.Mark{{Id: 2, At: []int64{5}}, {Id: 9, At: []int64{-2}}}
	four := []impl.Mark{{Id: 1, At: []int64{0, 0}}, {Id: 2, At: []int64{3, 4}}, {Id: 3, At: []int64{1, 0}}, {Id: 5, At: []int64{9, 9}}}
	// By Steps they are tied otherwise than by Far and by Reach.
	three := []impl.Mark{{Id: 4, At: []int64{0, 0, 0}}, {Id: 6, At: []int64{4, 4, 4}}, {Id: 8, At: []int64{9, 0, 0}}}
	line := axisMarks(4, 2, 0, 30, 11, 1, 10)
	for _, kind := range kinds {
		ties(t, one, kind, nil, 0, [][][]int64{{{7}}}, []int64{-1})
	}
	ties(t, two, impl.ByFar, []impl.Thread{thread(2, 9, 49)}, 49, [][][]int64{{{2, 9}}, {{2}, {9}}}, []int64{-1, 49})
	ties(t, two, impl.BySteps, []impl.Thread{thread(2, 9, 7)}, 7, [][][]int64{{{2, 9}}, {{2}, {9}}}, []int64{-1, 7})
	ties(t, two, impl.ByReach, []impl.Thread{thread(2, 9, 7)}, 7, [][][]int64{{{2, 9}}, {{2}, {9}}}, []int64{-1, 7})
	fours := [][][]int64{{{1, 2, 3, 5}}, {{1, 2, 3}, {5}}, {{1, 3}, {2}, {5}}, {{1}, {2}, {3}, {5}}}
	ties(t, four, impl.ByFar, []impl.Thread{thread(1, 3, 1), thread(2, 3, 20), thread(2, 5, 61)}, 82, fours, []int64{-1, 61, 20, 1})
	ties(t, four, impl.BySteps, []impl.Thread{thread(1, 3, 1), thread(2, 3, 6), thread(2, 5, 11)}, 18, fours, []int64{-1, 11, 6, 1})
	ties(t, four, impl.ByReach, []impl.Thread{thread(1, 3, 1), thread(1, 2, 4), thread(2, 5, 6)}, 11, fours, []int64{-1, 6, 4, 1})
	threes := func(last [][]int64) [][][]int64 { return [][][]int64{{{4, 6, 8}}, last, {{4}, {6}, {8}}} }
	ties(t, three, impl.ByFar, []impl.Thread{thread(4, 6, 48), thread(6, 8, 57)}, 105, threes([][]int64{{4, 6}, {8}}), []int64{-1, 57, 48})
	ties(t, three, impl.BySteps, []impl.Thread{thread(4, 8, 9), thread(4, 6, 12)}, 21, threes([][]int64{{4, 8}, {6}}), []int64{-1, 12, 9})
	ties(t, three, impl.ByReach, []impl.Thread{thread(4, 6, 4), thread(6, 8, 5)}, 9, threes([][]int64{{4, 6}, {8}}), []int64{-1, 5, 4})
	lines := [][][]int64{{{1, 2, 3, 4, 5}}, {{1, 3, 4, 5}, {2}}, {{1, 4}, {2}, {3, 5}}, {{1, 4}, {2}, {3}, {5}}, {{1}, {2}, {3}, {4}, {5}}}
	ties(t, line, impl.BySteps, []impl.Thread{thread(1, 4, 1), thread(3, 5, 1), thread(4, 5, 9), thread(2, 3, 19)}, 30, lines, []int64{-1, 19, 9, 1, 1})
	ties(t, line, impl.ByFar, []impl.Thread{thread(1, 4, 1), thread(3, 5, 1), thread(4, 5, 81), thread(2, 3, 361)}, 444, lines, []int64{-1, 361, 81, 1, 1})
}

func TestThreadsByTheirWords(t *testing.T) {
	full := 0
	for _, list := range centerMarks() {
		for _, kind := range kinds {
			want := threadsIn(list, kind)
			got := impl.Threads(list, kind)
			if !slices.Equal(got, want) {
				t.Fatalf("Threads(%v, %d) = %v, not %v", list, kind, got, want)
			}
			if g := impl.Total(got); g != sumOfLong(want) {
				t.Fatalf("Total(%v) = %d, not %d", got, g, sumOfLong(want))
			}
			if !impl.Tied(list, got, kind) {
				t.Fatalf("Tied(%v, %v, %d) is false", list, got, kind)
			}
		}
		if len(list) == impl.MaxMarks {
			full++
		}
	}
	if full < 50 {
		t.Errorf("only %d are full", full)
	}
}

func TestGroupsByTheirWords(t *testing.T) {
	for _, list := range centerMarks() {
		for _, kind := range kinds {
			threads := threadsIn(list, kind)
			for _, k := range someCounts(len(list)) {
				want := groupsTied(list, threads[:len(list)-k])
				got := impl.Groups(list, kind, int64(k))
				if !sameCells(got, want) {
					t.Fatalf("Groups(%v, %d, %d) = %v, not %v", list, kind, k, got, want)
				}
				gap := int64(-1)
				if k > 1 {
					gap = gapIn(list, kind, want)
				}
				if g := impl.Gap(list, kind, got); g != gap {
					t.Fatalf("Gap(%v, %d, %v) = %d, not %d", list, kind, got, g, gap)
				}
			}
		}
	}
}

// Promise 12: of all threads that tie few marks together none have less in
// Total, and just as many as there are trees are taken.
func TestKruskalOfAllThreads(t *testing.T) {
	trees := []int{0, 1, 1, 3, 16, 125, 1296}
	for _, list := range eachFew(len(trees) - 1) {
		for _, kind := range kinds {
			total, taken := impl.Total(impl.Threads(list, kind)), 0
			eachChoice(pairsIn(list, kind), len(list)-1, func(chosen []impl.Thread) {
				if !impl.Tied(list, chosen, kind) {
					return
				}
				taken++
				if g := impl.Total(chosen); g < total {
					t.Fatalf("Threads(%v, %d) have %d in all, %v only %d", list, kind, total, chosen, g)
				}
			})
			if taken != trees[len(list)] {
				t.Fatalf("of %v, %d, Tied takes %d, not %d", list, kind, taken, trees[len(list)])
			}
		}
	}
}

// Promise 12 of threads drawn in many ways, also of many marks.
func TestKruskalOfOtherThreads(t *testing.T) {
	next := walkOf(120)
	var asked, alike int
	for _, list := range centerMarks() {
		for _, kind := range kinds {
			total := impl.Total(impl.Threads(list, kind))
			for _, others := range otherThreads(next, list, kind) {
				if !impl.Tied(list, others, kind) {
					t.Fatalf("Tied(%v, %v, %d) is false", list, others, kind)
				}
				g := impl.Total(others)
				if g < total {
					t.Fatalf("Threads(%v, %d) have %d in all, %v only %d", list, kind, total, others, g)
				}
				asked++
				if g == total && len(list) > 2 {
					alike++
				}
			}
		}
	}
	if asked < 10000 || alike < 1000 || alike > asked/2 {
		t.Errorf("%d asked, %d alike", asked, alike)
	}
}

// Promise 12 by what its proof needs: what a thread alone ties together, no
// shorter one of any two marks would.
func TestNoShorterThreadTies(t *testing.T) {
	for _, list := range centerMarks() {
		for _, kind := range kinds {
			tree, pairs := impl.Threads(list, kind), pairsIn(list, kind)
			for i, th := range tree {
				if i%5 != 0 && i != len(tree)-1 {
					continue
				}
				l := labelled(list, without(tree, i))
				at := slices.IndexFunc(pairs, l.parts)
				if !l.parts(th) || pairs[at].Long != th.Long {
					t.Fatalf("Threads(%v, %d) = %v: %v could be %v", list, kind, tree, th, pairs[at])
				}
			}
		}
	}
}

// Promise 12: of all k groups of few marks none have a greater Gap.
func TestKruskalOfAllGroups(t *testing.T) {
	groupings := []int{0, 1, 2, 5, 15, 52, 203, 877}
	for _, list := range eachFew(len(groupings) - 1) {
		for _, kind := range kinds {
			gaps, gone := make([]int64, len(list)+1), 0
			for k := 1; k <= len(list); k++ {
				gaps[k] = impl.Gap(list, kind, impl.Groups(list, kind, int64(k)))
				if (gaps[k] < 0) != (k == 1) {
					t.Fatalf("of %v, kind %d, %d groups have the Gap %d", list, kind, k, gaps[k])
				}
			}
			eachGrouping(idsOfMarks(list), func(groups [][]int64) {
				gone++
				if g := impl.Gap(list, kind, groups); g > gaps[len(groups)] || (g < 0) != (len(groups) == 1) {
					t.Fatalf("Gap(%v, %d, %v) = %d, of Groups %d", list, kind, groups, g, gaps[len(groups)])
				}
			})
			if gone != groupings[len(list)] {
				t.Fatalf("%d groupings of %d", gone, len(list))
			}
		}
	}
}

// Promise 12 of groups drawn in many ways: of few marks with every k, of many
// with some, so that each is asked of several.
func TestKruskalOfOtherGroups(t *testing.T) {
	next := walkOf(121)
	var asked, alike int
	times := make([]int, impl.MaxMarks+1)
	for _, list := range centerMarks() {
		for _, kind := range kinds {
			for k := 2; k <= len(list); k++ {
				if len(list) > mostTried && next(30) > 0 {
					continue
				}
				times[k]++
				gap := impl.Gap(list, kind, impl.Groups(list, kind, int64(k)))
				for _, others := range otherGroups(next, list, kind, k) {
					g := impl.Gap(list, kind, others)
					if len(others) != k || g < 0 || g > gap {
						t.Fatalf("Gap(%v, %d, %v) = %d, of Groups of %d %d", list, kind, others, g, k, gap)
					}
					asked++
					if g == gap {
						alike++
					}
				}
			}
		}
	}
	if asked < 10000 || alike < 1000 || alike > asked*9/10 || slices.Min(times[2:]) < 3 {
		t.Errorf("%d asked, %d alike; of each k: %v", asked, alike, times[2:])
	}
}

// Promise 12 by what its proof needs, for every k: the Gap of Groups is the
// Long of the first of Threads that is left out, and no other k groups leave
// all of those ahead of it within a group.
func TestGapIsTheFirstLeftOut(t *testing.T) {
	for n := 1; n <= 4; n++ {
		for _, wide := range []int64{0, 2, 9, 60, 1000} {
			for _, count := range []int{2, 3, 10, 33, impl.MaxMarks} {
				list := someMarks(walkOf(uint64(122+n)), count, n, wide)
				for _, kind := range kinds {
					threads := impl.Threads(list, kind)
					for k := 1; k <= count; k++ {
						groups := impl.Groups(list, kind, int64(k))
						if len(groups) != k || !sameCells(groups, groupsTied(list, threads[:count-k])) {
							t.Fatalf("Groups(%v, %d, %d) = %v", list, kind, k, groups)
						}
						want := int64(-1)
						if k > 1 {
							want = threads[count-k].Long
						}
						if g := impl.Gap(list, kind, groups); g != want {
							t.Fatalf("Gap(%v, %d, %v) = %d, not %d", list, kind, groups, g, want)
						}
					}
				}
			}
		}
	}
}

// Threads are in order by Long, then A, then B, with A less than B; the Ids of
// each group rise, and so do their first ones.
func TestOrderOfThreadsAndGroups(t *testing.T) {
	for _, list := range centerMarks() {
		for _, kind := range kinds {
			threads := impl.Threads(list, kind)
			for i, th := range threads {
				if th.A >= th.B || i > 0 && byThread(threads[i-1], th) >= 0 {
					t.Fatalf("Threads(%v, %d) = %v", list, kind, threads)
				}
			}
			for _, k := range []int{1, (len(list) + 1) / 2, len(list)} {
				groups, firsts := impl.Groups(list, kind, int64(k)), []int64{}
				for _, group := range groups {
					if len(group) == 0 || !rising(group) {
						t.Fatalf("Groups(%v, %d, %d) = %v", list, kind, k, groups)
					}
					firsts = append(firsts, group[0])
				}
				all := slices.Concat(groups...)
				slices.Sort(all)
				if !rising(firsts) || !slices.Equal(all, idsOfMarks(list)) {
					t.Fatalf("Groups(%v, %d, %d) = %v", list, kind, k, groups)
				}
			}
		}
	}
}

func rising(ids []int64) bool {
	for i := 1; i < len(ids); i++ {
		if ids[i-1] >= ids[i] {
			return false
		}
	}
	return true
}

// Of threads that are alike in Long it is the one with the lesser A, of those
// with one A the lesser B.
func TestThreadsOfAlikeLong(t *testing.T) {
	square := []impl.Mark{{Id: 3, At: []int64{0, 0}}, {Id: 5, At: []int64{0, 2}}, {Id: 6, At: []int64{2, 2}}, {Id: 9, At: []int64{2, 0}}}
	squares := [][][]int64{{{3, 5, 6, 9}}, {{3, 5, 9}, {6}}, {{3, 5}, {6}, {9}}, {{3}, {5}, {6}, {9}}}
	ties(t, square, impl.BySteps, []impl.Thread{thread(3, 5, 2), thread(3, 9, 2), thread(5, 6, 2)}, 6, squares, []int64{-1, 2, 2, 2})
	ties(t, square, impl.ByFar, []impl.Thread{thread(3, 5, 4), thread(3, 9, 4), thread(5, 6, 4)}, 12, squares, []int64{-1, 4, 4, 4})
	// By Reach the far corners are no farther.
	ties(t, square, impl.ByReach, []impl.Thread{thread(3, 5, 2), thread(3, 6, 2), thread(3, 9, 2)}, 6,
		[][][]int64{{{3, 5, 6, 9}}, {{3, 5, 6}, {9}}, {{3, 5}, {6}, {9}}, {{3}, {5}, {6}, {9}}}, []int64{-1, 2, 2, 2})
	for n := 1; n <= 4; n++ {
		for axis := range n {
			// Ids go along the line, against it, and to and fro.
			along := []impl.Thread{thread(1, 2, 4), thread(2, 3, 4), thread(3, 4, 4)}
			parted := [][][]int64{{{1, 2, 3, 4}}, {{1, 2, 3}, {4}}, {{1, 2}, {3}, {4}}, {{1}, {2}, {3}, {4}}}
			ties(t, axisMarks(n, axis, -4, 0, 4, 8), impl.ByReach, along, 12, parted, []int64{-1, 4, 4, 4})
			ties(t, axisMarks(n, axis, 8, 4, 0, -4), impl.BySteps, along, 12, parted, []int64{-1, 4, 4, 4})
			ties(t, axisMarks(n, axis, 4, -4, 8, 0), impl.BySteps, []impl.Thread{thread(1, 3, 4), thread(1, 4, 4), thread(2, 4, 4)}, 12,
				[][][]int64{{{1, 2, 3, 4}}, {{1, 3, 4}, {2}}, {{1, 3}, {2}, {4}}, {{1}, {2}, {3}, {4}}}, []int64{-1, 4, 4, 4})
			// A shorter one comes first, whatever its Ids are.
			ties(t, axisMarks(n, axis, 0, 5, 11, 10), impl.ByReach, []impl.Thread{thread(3, 4, 1), thread(1, 2, 5), thread(2, 4, 5)}, 11,
				[][][]int64{{{1, 2, 3, 4}}, {{1, 2}, {3, 4}}, {{1}, {2}, {3, 4}}, {{1}, {2}, {3}, {4}}}, []int64{-1, 5, 5, 1})
		}
	}
}

// Marks at one place are all tied to the first one, by nothing.
func TestThreadsAtOnePlace(t *testing.T) {
	for n := 1; n <= 4; n++ {
		for _, x := range []int64{-1000, 0, 1000} {
			for _, count := range []int{1, 2, 3, 8, 31, 59, impl.MaxMarks} {
				ids := risingIds(int64(17*count), count)
				list := marksOf(ids, slices.Repeat([]int64{x}, n)...)
				threads, groups, gaps := []impl.Thread{}, [][][]int64{}, make([]int64, count)
				for i := range ids {
					if i > 0 {
						threads = append(threads, thread(ids[0], ids[i], 0))
					}
					// With k of i + 1 the last i are each alone.
					alone := [][]int64{ids[:count-i]}
					for _, id := range ids[count-i:] {
						alone = append(alone, []int64{id})
					}
					groups = append(groups, alone)
				}
				gaps[0] = -1
				for _, kind := range kinds {
					ties(t, list, kind, threads, 0, groups, gaps)
				}
			}
		}
		// Two places: what lies at one is tied together first.
		list := axisMarks(n, 0, 3, 8, 3, 8, 3)
		for i, kind := range kinds {
			gap := []int64{25, 5, 5}[i]
			ties(t, list, kind, []impl.Thread{thread(1, 3, 0), thread(1, 5, 0), thread(2, 4, 0), thread(1, 2, gap)}, gap,
				[][][]int64{{{1, 2, 3, 4, 5}}, {{1, 3, 5}, {2, 4}}, {{1, 3, 5}, {2}, {4}}, {{1, 3}, {2}, {4}, {5}}, {{1}, {2}, {3}, {4}, {5}}},
				[]int64{-1, gap, 0, 0, 0})
		}
	}
}

// Ids from 1 to MaxId and numbers from -MaxAt to MaxAt are right.
func TestThreadsAtTheEnds(t *testing.T) {
	for n := 1; n <= 4; n++ {
		low, high := slices.Repeat([]int64{-1000}, n), slices.Repeat([]int64{1000}, n)
		list := []impl.Mark{{Id: 1, At: low}, {Id: impl.MaxId, At: high}}
		for i, kind := range kinds {
			far := []int64{int64(n) * 4000000, int64(n) * 2000, 2000}[i]
			ties(t, list, kind, []impl.Thread{thread(1, impl.MaxId, far)}, far, [][][]int64{{{1, impl.MaxId}}, {{1}, {impl.MaxId}}}, []int64{-1, far})
		}
	}
}

func TestTiedByItsWords(t *testing.T) {
	next := walkOf(123)
	var yes, no int
	for _, list := range eachFew(7) {
		for _, kind := range kinds {
			pairs := pairsIn(list, kind)
			for range 60 {
				threads := mixed(next, pairs)[:min(len(list)-1+int(next(8))/7, len(pairs))]
				want := tiedIn(list, threads, kind)
				if g := impl.Tied(list, threads, kind); g != want {
					t.Fatalf("Tied(%v, %v, %d) is %v", list, threads, kind, g)
				}
				if want && len(list) > 2 {
					yes++
				} else {
					no++
				}
			}
		}
	}
	if yes < 1000 || no < 1000 {
		t.Errorf("%d are tied, %d are not", yes, no)
	}
}

// One mark is tied together by no threads, and by no thread.
func TestTiedOfOne(t *testing.T) {
	for n := 1; n <= 4; n++ {
		one := marksOf([]int64{5}, slices.Repeat([]int64{7}, n)...)
		for _, kind := range kinds {
			for _, none := range [][]impl.Thread{nil, {}, impl.Threads(one, kind)} {
				if !impl.Tied(one, none, kind) {
					t.Errorf("Tied(%v, %v, %d) is false", one, none, kind)
				}
			}
			for _, th := range []impl.Thread{{}, thread(5, 5, 0), thread(5, 6, 0), thread(4, 5, 0), thread(0, 5, 0), thread(5, 6, -1)} {
				notTied(t, one, []impl.Thread{th}, kind)
				notTied(t, one, []impl.Thread{th, th}, kind)
			}
		}
	}
}

func TestTiedInAnyOrder(t *testing.T) {
	next := walkOf(124)
	for _, list := range centerMarks() {
		for _, kind := range kinds {
			threads := threadsIn(list, kind)
			turned := slices.Clone(threads)
			slices.Reverse(turned)
			for _, same := range [][]impl.Thread{turned, mixed(next, threads), mixed(next, threads)} {
				if !impl.Tied(list, same, kind) || impl.Total(same) != sumOfLong(threads) {
					t.Fatalf("Tied(%v, %v, %d) is false, or Total = %d", list, same, kind, impl.Total(same))
				}
			}
		}
	}
}

// As many threads as are asked for may yet leave some apart: a ring of three
// and one alone, or one thread twice.
func TestNotAllTied(t *testing.T) {
	list := axisMarks(2, 1, 0, 1, 3, 7)
	notTied(t, list, []impl.Thread{thread(1, 2, 1), thread(2, 3, 2), thread(1, 3, 3)}, impl.BySteps)
	notTied(t, list, []impl.Thread{thread(1, 3, 3), thread(2, 3, 2), thread(1, 2, 1)}, impl.ByReach)
	next := walkOf(125)
	for _, list := range centerMarks() {
		for _, kind := range kinds {
			threads := threadsIn(list, kind)
			for range min(3, len(threads)) {
				at := int(next(int64(len(threads))))
				left := without(threads, at)
				l := labelled(list, left)
				idle := slices.DeleteFunc(pairsIn(list, kind), l.parts)
				for _, th := range mixed(next, idle)[:min(5, len(idle))] {
					notTied(t, list, append(slices.Clone(left), th), kind)
				}
				for _, th := range left[:min(3, len(left))] {
					notTied(t, list, append(slices.Clone(left), th), kind)
					notTied(t, list, slices.Concat([]impl.Thread{th}, left), kind)
				}
			}
		}
		if t.Failed() {
			return
		}
	}
}

func TestTiedByTooFewOrTooMany(t *testing.T) {
	for _, list := range centerMarks() {
		if len(list) == 1 {
			continue
		}
		for _, kind := range kinds {
			threads, pairs := threadsIn(list, kind), pairsIn(list, kind)
			notTied(t, list, nil, kind)
			notTied(t, list, threads[1:], kind)
			notTied(t, list, threads[:len(threads)-1], kind)
			notTied(t, list, append(slices.Clone(threads), threads[0]), kind)
			notTied(t, list, append(slices.Clone(threads), pairs[len(pairs)-1]), kind)
			notTied(t, list, append(slices.Clone(threads), impl.Thread{}), kind)
			notTied(t, list, slices.Concat(threads, threads), kind)
			if len(list) > 2 {
				notTied(t, list, pairs, kind)
			}
			// The threads of less marks, and of more.
			notTied(t, list, threadsIn(list[1:], kind), kind)
			notTied(t, list[1:], threads, kind)
		}
		if t.Failed() {
			return
		}
	}
}

// A thread in any place that is none of theirs is refused: of another Long,
// turned about, of one Id alone, of an Id that is none of theirs.
func TestTiedByNoThread(t *testing.T) {
	next := walkOf(126)
	for _, list := range centerMarks() {
		ids := idsOfMarks(list)
		for _, kind := range kinds {
			threads := threadsIn(list, kind)
			for range min(2, len(threads)) {
				at := int(next(int64(len(threads))))
				th := threads[at]
				for _, wrong := range []impl.Thread{
					{}, thread(th.A, th.B, th.Long+1), thread(th.A, th.B, th.Long-1), thread(th.A, th.B, -1), thread(th.A, th.B, -th.Long-1),
					thread(th.A, th.B, least), thread(th.A, th.B, greatest), thread(th.A, th.B, th.Long+1<<32),
					thread(th.B, th.A, th.Long), thread(th.A, th.A, th.Long), thread(th.B, th.B, th.Long), thread(th.A, th.A, 0), thread(th.B, th.B, 0),
					thread(0, th.B, th.Long), thread(-th.A, th.B, th.Long), thread(th.A, impl.MaxId+1, th.Long), thread(th.A, ids[len(ids)-1]+1, th.Long),
					thread(ids[0]-1, th.B, th.Long), thread(least, th.B, th.Long), thread(th.A, greatest, th.Long), thread(th.A, th.B+1<<32, th.Long),
					thread(0, th.B, -1), thread(th.A, impl.MaxId+1, -1),
				} {
					other := slices.Clone(threads)
					other[at] = wrong
					notTied(t, list, other, kind)
				}
			}
		}
		if t.Failed() {
			return
		}
	}
	// Their Between by another kind.
	list := []impl.Mark{{Id: 1, At: []int64{0, 0}}, {Id: 2, At: []int64{2, 3}}, {Id: 4, At: []int64{9, 5}}}
	for _, kind := range kinds {
		for _, other := range kinds {
			if g := impl.Tied(list, threadsIn(list, other), kind); g != (kind == other) {
				t.Errorf("by %d the threads by %d: %v", kind, other, g)
			}
		}
	}
}

// An Id between those of the marks is none of theirs either.
func TestTiedByAnIdBetween(t *testing.T) {
	list := marksOf([]int64{2, 4, 6}, 5, 5)
	for _, wrong := range []int64{1, 3, 5, 7} {
		notTied(t, list, []impl.Thread{thread(2, 4, 0), thread(min(wrong, 6), max(wrong, 6), 0)}, impl.BySteps)
		notTied(t, list, []impl.Thread{thread(min(wrong, 4), max(wrong, 4), 0), thread(min(wrong, 6), max(wrong, 6), 0)}, impl.BySteps)
	}
}

// Each Long is from 0 to 2^40, whatever the Ids are; nothing else is asked.
func TestTotal(t *testing.T) {
	for _, c := range []struct {
		longs []int64
		want  int64
	}{
		{nil, 0}, {[]int64{}, 0}, {[]int64{0}, 0}, {[]int64{0, 0}, 0}, {[]int64{1}, 1}, {[]int64{5, 7}, 12}, {[]int64{7, 5, 7}, 19},
		{[]int64{longest}, longest}, {[]int64{longest - 1}, longest - 1}, {[]int64{longest, longest}, 2 * longest},
		{[]int64{longest, 0, 1}, longest + 1}, {[]int64{longest + 1}, -1}, {[]int64{longest + 2}, -1}, {[]int64{-1}, -1}, {[]int64{-2}, -1},
		{[]int64{least}, -1}, {[]int64{greatest}, -1}, {[]int64{least + 1}, -1}, {[]int64{greatest, least}, -1}, {[]int64{least, least}, -1},
		{[]int64{greatest, greatest, 2}, -1}, {[]int64{-1, 1}, -1}, {[]int64{1, -1}, -1}, {[]int64{-1, -1}, -1}, {[]int64{0, longest + 1, 0}, -1}, {[]int64{-longest}, -1},
		{slices.Repeat([]int64{longest}, 1000), 1000 * longest},
	} {
		for _, ids := range [][2]int64{{1, 2}, {2, 1}, {0, 0}, {3, 3}, {least, greatest}, {-1, impl.MaxId + 1}} {
			threads := []impl.Thread{}
			for _, long := range c.longs {
				threads = append(threads, thread(ids[0], ids[1], long))
			}
			if g := impl.Total(threads); g != c.want {
				t.Errorf("Total of %v = %d, not %d", c.longs, g, c.want)
			}
		}
	}
	// One that is wrong is found in each place.
	for count := 1; count <= impl.MaxMarks; count++ {
		for at := range count {
			for _, wrong := range []int64{-1, longest + 1} {
				threads := slices.Repeat([]impl.Thread{thread(1, 2, 3)}, count)
				if g := impl.Total(threads); g != int64(3*count) {
					t.Fatalf("Total(%v) = %d", threads, g)
				}
				threads[at].Long = wrong
				if g := impl.Total(threads); g != -1 {
					t.Fatalf("Total(%v) = %d", threads, g)
				}
			}
		}
	}
}

// With a k of 1 all are one group, with as many as there are each is alone.
func TestGroupsOfOneAndOfAll(t *testing.T) {
	for _, list := range centerMarks() {
		ids := idsOfMarks(list)
		for _, kind := range kinds {
			if g := impl.Groups(list, kind, 1); !sameCells(g, [][]int64{ids}) {
				t.Fatalf("Groups(%v, %d, 1) = %v", list, kind, g)
			}
			if g := impl.Groups(list, kind, int64(len(list))); !sameCells(g, cut(ids, len(ids))) {
				t.Fatalf("Groups(%v, %d, %d) = %v", list, kind, len(list), g)
			}
		}
	}
}

func TestGapInAnyOrder(t *testing.T) {
	next := walkOf(127)
	for _, list := range centerMarks() {
		for _, kind := range kinds {
			for _, k := range []int{2, 3, (len(list) + 1) / 2, len(list)} {
				if k < 2 || k > len(list) {
					continue
				}
				for _, groups := range [][][]int64{strewn(next, idsOfMarks(list), k), groupsIn(list, kind, k)} {
					want := gapIn(list, kind, groups)
					turned := copyLists(groups)
					slices.Reverse(turned)
					for _, same := range [][][]int64{groups, turned, mixedGroups(next, groups), mixedGroups(next, groups)} {
						if g := impl.Gap(list, kind, same); g != want {
							t.Fatalf("Gap(%v, %d, %v) = %d, not %d", list, kind, same, g, want)
						}
					}
				}
			}
		}
	}
}

// The Gap is that of the two nearest groups, wherever they stand.
func TestGapOfTheNearest(t *testing.T) {
	for n := 1; n <= 4; n++ {
		list := axisMarks(n, n-1, 0, 100, 50, 53, 200)
		for i, kind := range kinds {
			gap := func(steps int64) int64 { return []int64{steps * steps, steps, steps}[i] }
			for _, c := range []struct {
				groups [][]int64
				steps  int64
			}{
				{[][]int64{{1}, {2}, {3}, {4}, {5}}, 3}, {[][]int64{{4}, {5}, {1}, {2}, {3}}, 3}, {[][]int64{{4, 3}, {5}, {1}, {2}}, 47},
				{[][]int64{{5, 2}, {1}, {3, 4}}, 47}, {[][]int64{{1, 3, 4}, {5, 2}}, 47}, {[][]int64{{1}, {5, 4, 3, 2}}, 50},
				{[][]int64{{4, 1, 2, 3}, {5}}, 100}, {[][]int64{{1, 5}, {2, 3, 4}}, 50}, {[][]int64{{3, 5}, {1, 2, 4}}, 3},
			} {
				if g := impl.Gap(list, kind, c.groups); g != gap(c.steps) {
					t.Errorf("Gap(%v, %d, %v) = %d, not %d", list, kind, c.groups, g, gap(c.steps))
				}
			}
		}
	}
}

// What are no groups in which each mark stands once is refused: one stands
// twice or nowhere, a group has none, an Id is none of theirs.
func TestGapOfNoGroups(t *testing.T) {
	next := walkOf(128)
	for _, list := range centerMarks() {
		ids := idsOfMarks(list)
		for _, kind := range kinds {
			noGap(t, list, kind, nil)
			noGap(t, list, kind, [][]int64{})
			noGap(t, list, kind, [][]int64{nil, nil})
			noGap(t, list, kind, [][]int64{ids})
			noGap(t, list, kind, [][]int64{ids, ids})
			noGap(t, list, kind, [][]int64{ids, nil})
			noGap(t, list, kind, [][]int64{nil, ids})
			for _, k := range []int{2, 3, (len(list) + 1) / 2, len(list)} {
				if k > 1 && k <= len(list) {
					noneBeside(t, next, list, kind, strewn(next, ids, k))
				}
			}
		}
		if t.Failed() {
			return
		}
	}
}

// noneBeside asks of groups that are right but for one thing.
func noneBeside(t *testing.T, next func(int64) int64, list []impl.Mark, kind int64, groups [][]int64) {
	t.Helper()
	ids := idsOfMarks(list)
	some := func(many int) int { return int(next(int64(many))) }
	for _, empty := range [][]int64{nil, {}} {
		noGap(t, list, kind, slices.Concat([][]int64{empty}, groups))
		noGap(t, list, kind, slices.Concat(groups, [][]int64{empty}))
		noGap(t, list, kind, slices.Insert(copyLists(groups), some(len(groups)), empty))
	}
	noGap(t, list, kind, [][]int64{slices.Concat(groups...)})
	noGap(t, list, kind, slices.Concat(groups, groups))
	at := some(len(groups))
	group := groups[at]
	noGap(t, list, kind, without(groups, at))
	beside := func(group []int64) [][]int64 {
		own := copyLists(groups)
		own[at] = group
		return own
	}
	// One that stands in the group already, one that may stand in another.
	for _, twice := range []int64{group[some(len(group))], ids[some(len(ids))]} {
		noGap(t, list, kind, beside(append(slices.Clone(group), twice)))
		noGap(t, list, kind, beside(slices.Concat([]int64{twice}, group)))
		noGap(t, list, kind, slices.Concat(groups, [][]int64{{twice}}))
	}
	out := some(len(group))
	noGap(t, list, kind, beside(without(group, out)))
	for _, wrong := range []int64{0, -1, -group[out], least, greatest, impl.MaxId + 1, group[out] + 1<<32, ids[0] - 1, ids[len(ids)-1] + 1} {
		noGap(t, list, kind, beside(slices.Insert(slices.Clone(group), out, wrong)))
		noGap(t, list, kind, beside(slices.Insert(without(group, out), out, wrong)))
		noGap(t, list, kind, slices.Concat(groups, [][]int64{{wrong}}))
	}
	// One in the place of another: it stands twice, and the other nowhere.
	for _, other := range ids[:min(3, len(ids))] {
		if other != group[out] {
			noGap(t, list, kind, beside(slices.Insert(without(group, out), out, other)))
		}
	}
}

// Lists far too long end the same way, also where all are one memory.
func TestTiesOfTooLongLists(t *testing.T) {
	list := axisMarks(2, 0, 1, 2, 3)
	many := slices.Repeat([]int64{1}, 1<<20)
	noGap(t, list, impl.BySteps, [][]int64{many, {2}, {3}})
	noGap(t, list, impl.BySteps, [][]int64{{2}, {3}, many})
	noGap(t, list, impl.BySteps, slices.Repeat([][]int64{many}, 1<<20))
	noGap(t, list, impl.BySteps, slices.Concat([][]int64{{1}, {2}, {3}}, make([][]int64, 1<<20)))
	threads := slices.Repeat([]impl.Thread{thread(1, 2, 1)}, 1<<20)
	notTied(t, list, threads, impl.BySteps)
	if g := impl.Total(threads); g != 1<<20 {
		t.Errorf("Total = %d", g)
	}
}

func TestThreadsOfNoMarks(t *testing.T) {
	for _, none := range [][]impl.Mark{nil, {}, make([]impl.Mark, 0, 5)} {
		for _, kind := range slices.Concat(kinds, noKinds) {
			noTie(t, none, kind)
			notTied(t, none, []impl.Thread{}, kind)
			for _, th := range []impl.Thread{{}, thread(1, 2, 0), thread(1, 2, -1)} {
				notTied(t, none, []impl.Thread{th}, kind)
			}
			for _, groups := range [][][]int64{{{1}, {2}}, {{0}, {0}}, {{1}}} {
				noGap(t, none, kind, groups)
			}
		}
	}
}

func TestGroupsWrongCount(t *testing.T) {
	for _, list := range centerMarks() {
		for _, kind := range kinds {
			for _, k := range wrongCounts(len(list)) {
				noGroups(t, list, kind, k)
			}
		}
	}
}

func TestThreadsWrongKind(t *testing.T) {
	for _, list := range centerMarks() {
		for _, kind := range noKinds {
			noTie(t, list, kind)
		}
		if t.Failed() {
			return
		}
	}
}

func TestThreadsWrongMarks(t *testing.T) {
	for _, list := range noMarks() {
		for _, kind := range append(slices.Clone(kinds), 0, 4) {
			noTie(t, list, kind)
		}
	}
}

// One wrong mark in the place of each in turn is refused.
func TestThreadsWrongMarkInEachPlace(t *testing.T) {
	for n := 1; n <= 4; n++ {
		for _, count := range []int{1, 2, 8, 20} {
			list := someMarks(walkOf(uint64(n)), count, n, 9)
			for i := range list {
				for _, wrong := range noPlaces(n) {
					if count == 1 && impl.PointOk(wrong) {
						continue // Of one mark alone any length is right.
					}
					other := slices.Clone(list)
					other[i].At = wrong
					noTie(t, other, impl.BySteps)
				}
			}
		}
	}
}

// As many as MaxMarks are tied together, one more is refused.
func TestHowManyMarksOfThreads(t *testing.T) {
	next := walkOf(129)
	for n := 1; n <= 4; n++ {
		for count := 1; count <= impl.MaxMarks+2; count++ {
			list := someMarks(next, count, n, 50)
			for _, kind := range kinds {
				if count > impl.MaxMarks {
					noTie(t, list, kind)
					notTied(t, list, threadsIn(list, kind), kind)
					continue
				}
				threads, k := impl.Threads(list, kind), (count+1)/2
				if !slices.Equal(threads, threadsIn(list, kind)) || !impl.Tied(list, threads, kind) {
					t.Fatalf("Threads(%v, %d) = %v", list, kind, threads)
				}
				if g := impl.Groups(list, kind, int64(k)); !sameCells(g, groupsIn(list, kind, k)) {
					t.Fatalf("Groups(%v, %d, %d) = %v", list, kind, k, g)
				}
			}
		}
	}
}

func roomyThreads(threads []impl.Thread) (list, whole []impl.Thread) {
	whole = append(slices.Clone(threads), thread(81, 82, 83), thread(-84, -85, -86), thread(1, 2, 0))
	return whole[:len(threads)], whole
}

// spoilThreads writes over an answer and the room behind it.
func spoilThreads(threads []impl.Thread) {
	threads = threads[:cap(threads)]
	for i := range threads {
		threads[i] = thread(-77, -78, -79)
	}
}

func TestThreadsArgumentsStay(t *testing.T) {
	next := walkOf(130)
	for _, marks := range slices.Concat(centerMarks(), noMarks(), [][]impl.Mark{nil}) {
		list, whole := roomyMarks(marks)
		kept := memory(whole)
		for _, kind := range []int64{impl.ByFar, impl.BySteps, impl.ByReach, 0, 4} {
			spoilThreads(impl.Threads(list, kind))
			for _, k := range []int64{0, 1, 2, int64(len(marks)), int64(len(marks)) + 1, -1} {
				spoilLists(impl.Groups(list, kind, k))
			}
			some := mixed(next, impl.Threads(list, kind))
			for _, threads := range [][]impl.Thread{some, append(some, thread(1, 2, -1)), nil} {
				threadsStay(t, list, threads, kind)
			}
			ids := mixed(next, idsOfMarks(marks))
			for _, groups := range [][][]int64{cut(ids, max(1, len(ids)/2)), {ids, {}, ids}, {ids, {-1}}, nil} {
				groupsStay(t, list, kind, groups)
			}
		}
		if !slices.Equal(memory(whole), kept) {
			t.Fatalf("%v became %v", marks, list)
		}
	}
}

func threadsStay(t *testing.T, list []impl.Mark, threads []impl.Thread, kind int64) {
	t.Helper()
	own, whole := roomyThreads(threads)
	kept := slices.Clone(whole)
	impl.Tied(list, own, kind)
	impl.Total(own)
	if !slices.Equal(whole, kept) {
		t.Fatalf("%v became %v", kept, whole)
	}
}

func groupsStay(t *testing.T, list []impl.Mark, kind int64, groups [][]int64) {
	t.Helper()
	own, look := roomyCenters(groups)
	kept := look()
	impl.Gap(list, kind, own)
	if !slices.Equal(look(), kept) {
		t.Fatalf("%v became %v", groups, own)
	}
}

// What is written over an answer or its arguments changes no other answer.
func TestThreadsAndGroupsAreNew(t *testing.T) {
	for _, marks := range centerMarks() {
		for _, kind := range kinds {
			list, _ := roomyMarks(marks)
			k := int64(len(list)+1) / 2
			threads, groups := impl.Threads(list, kind), impl.Groups(list, kind, k)
			spoilThreads(impl.Threads(list, kind))
			spoilLists(impl.Groups(list, kind, k))
			for i := range list {
				spoilNumbers(list[i].At)
				list[i].Id = -5
			}
			if !slices.Equal(threads, threadsIn(marks, kind)) || !sameCells(groups, groupsIn(marks, kind, int(k))) {
				t.Fatalf("of %v, kind %d, they became %v and %v", marks, kind, threads, groups)
			}
		}
	}
}

// Each group is its own memory, with the room behind it.
func TestGroupsAreApart(t *testing.T) {
	for _, list := range centerMarks() {
		for _, k := range []int{1, 2, (len(list) + 1) / 2, len(list)} {
			if k > len(list) {
				continue
			}
			want := groupsIn(list, impl.BySteps, k)
			forth, back := impl.Groups(list, impl.BySteps, int64(k)), impl.Groups(list, impl.BySteps, int64(k))
			for i := range want {
				last := len(want) - 1 - i
				if !sameCells(forth[i:], want[i:]) || !sameCells(back[:last+1], want[:last+1]) {
					t.Fatalf("Groups(%v, %d): %v or %v, not %v", list, k, forth[i:], back[:last+1], want)
				}
				spoilNumbers(forth[i])
				spoilNumbers(back[last])
			}
		}
	}
}
