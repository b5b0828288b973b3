package tests

import (
	"cmp"
	"fmt"
	"reflect"
	"slices"
	"strings"
	"testing"

	"loop.example/g00273/impl"
)

const (
	mostCopies = 5
	mostLogged = 100
	mostActs   = 200
	mostParts  = 400
	// fetchedBy is how many bytes each piece has that is fetched.
	fetchedBy = 40
)

// noCopies are numbers of Copies that no World has.
var noCopies = []int64{0, -1, -2, -mostCopies, mostCopies + 1, mostCopies + 2, 100, 1 << 32, 1<<32 + 1, 1<<32 + mostCopies, least, least + 1, greatest, greatest - 1}

// noActKinds are numbers that are no Kind.
var noActKinds = []int64{0, 7, 8, -1, -6, 1 << 32, 1<<32 + 1, 1<<32 + 6, least, least + 1, least + 5, greatest, greatest - 1}

func askOf(c impl.Command) impl.Act { return impl.Act{Kind: impl.AcAsk, Command: c} }

func actOf(kind, a int64) impl.Act { return impl.Act{Kind: kind, A: a} }

func fetchOf(a, b int64) impl.Act { return impl.Act{Kind: impl.AcFetch, A: a, B: b} }

func copyOf(c impl.Copy) impl.Copy {
	c.Desk, c.Parts = copyDesk(c.Desk), slices.Clone(c.Parts)
	return c
}

func copyWorld(w impl.World) impl.World {
	g := impl.World{Width: w.Width}
	for _, c := range w.Log {
		g.Log = append(g.Log, copyCommand(c))
	}
	for _, c := range w.Copies {
		g.Copies = append(g.Copies, copyOf(c))
	}
	return g
}

func sameCopy(a, b impl.Copy) bool {
	return sameDesk(a.Desk, b.Desk) && a.Applied == b.Applied && a.Saved == b.Saved && a.SavedAt == b.SavedAt && slices.Equal(a.Parts, b.Parts) && a.PartsAt == b.PartsAt
}

func sameWorld(a, b impl.World) bool {
	return a.Width == b.Width && slices.EqualFunc(a.Log, b.Log, sameCommand) && slices.EqualFunc(a.Copies, b.Copies, sameCopy)
}

func isZeroWorld(w impl.World) bool { return w.Width == 0 && len(w.Log) == 0 && len(w.Copies) == 0 }

// emptyWorld is NewWorld by the document's words.
func emptyWorld(width int64, copies int) impl.World {
	w := impl.World{Width: width}
	for range copies {
		w.Copies = append(w.Copies, impl.Copy{Desk: emptyDesk(width)})
	}
	return w
}

// pictureKept is what drawnIn tells of a text, which is asked of it once.
type pictureKept map[string][]impl.Desk

func (k pictureKept) drawn(text string) (impl.Desk, bool) {
	desks, is := k[text]
	if !is {
		desks = drawnIn(text)
		k[text] = desks
	}
	if len(desks) == 0 {
		return impl.Desk{}, false
	}
	return copyDesk(desks[0]), true
}

// worldIn is WorldOk by the document's words.
func (k pictureKept) worldIn(w impl.World) bool {
	if w.Width < 1 || w.Width > 4 || len(w.Log) > 100 || len(w.Copies) < 1 || len(w.Copies) > 5 {
		return false
	}
	for _, c := range w.Log {
		if !commandIn(c) {
			return false
		}
	}
	for _, c := range w.Copies {
		for _, n := range []int64{c.Applied, c.SavedAt, c.PartsAt} {
			if n < 0 || n > int64(len(w.Log)) {
				return false
			}
		}
		if c.Desk.State.Width != w.Width || !deskIn(c.Desk) || c.Saved == "" && c.SavedAt != 0 || len(c.Parts) > 400 {
			return false
		}
		for _, part := range c.Parts {
			if len(part) > 1000 {
				return false
			}
		}
		if d, ok := k.drawn(c.Saved); c.Saved != "" && (!ok || d.State.Width != w.Width) {
			return false
		}
	}
	return true
}

// piecesIn are the pieces by 40 of a text.
func piecesIn(text string) []string {
	list := []string{}
	if len(text) > mostPieced {
		return list
	}
	for at := 0; at < len(text); at += fetchedBy {
		list = append(list, text[at:min(at+fetchedBy, len(text))])
	}
	return list
}

// happenIn is Happen of a right World, by the document's words.
func (k pictureKept) happenIn(w impl.World, a impl.Act) (impl.World, int64) {
	g, many := copyWorld(w), int64(len(w.Copies))
	switch {
	case a.Kind == 1 && commandIn(a.Command) && len(w.Log) < 100:
		g.Log = append(g.Log, copyCommand(a.Command))
		return g, 0
	case a.Kind < 2 || a.Kind > 6 || a.A < 0 || a.A >= many:
		return g, 1
	}
	c := &g.Copies[a.A]
	switch a.Kind {
	case 2:
		if c.Applied == int64(len(w.Log)) {
			return g, 1
		}
		c.Desk, _ = appliedIn(c.Desk, w.Log[c.Applied])
		c.Applied++
	case 3:
		c.Saved, c.SavedAt = pictureIn(c.Desk), c.Applied
	case 4:
		desk, ok := k.drawn(c.Saved)
		if !ok {
			desk = emptyDesk(w.Width)
		}
		*c = impl.Copy{Desk: desk, Applied: c.SavedAt, Saved: c.Saved, SavedAt: c.SavedAt}
	case 5:
		if a.B < 0 || a.B >= many || a.B == a.A {
			return g, 1
		}
		from, have := w.Copies[a.B], c.Parts
		pieces := piecesIn(from.Saved)
		if c.PartsAt != from.SavedAt || len(have) > len(pieces) {
			have = nil
		}
		if len(have) == len(pieces) || len(have) == 400 {
			return g, 1
		}
		c.Parts, c.PartsAt = append(slices.Clone(have), pieces[len(have)]), from.SavedAt
	case 6:
		if len(c.Parts) == 0 {
			return g, 1
		}
		text, at := strings.Join(c.Parts, ""), c.PartsAt
		c.Parts, c.PartsAt = nil, 0
		desk, ok := k.drawn(text)
		if !ok || desk.State.Width != w.Width || at <= c.Applied {
			return g, 3
		}
		*c = impl.Copy{Desk: desk, Applied: at, Saved: text, SavedAt: at}
	}
	return g, 0
}

// sameIn is Same of a right World, by the document's words.
func sameIn(w impl.World) bool {
	for i, a := range w.Copies {
		folded, _ := foldedIn(w.Width, w.Log[:a.Applied])
		if pictureIn(a.Desk) != pictureIn(folded) {
			return false
		}
		for _, b := range w.Copies[:i] {
			if a.Applied == b.Applied && pictureIn(a.Desk) != pictureIn(b.Desk) {
				return false
			}
		}
	}
	return true
}

func (k pictureKept) isWorld(t *testing.T, w impl.World) {
	t.Helper()
	if !impl.WorldOk(w) || !k.worldIn(w) {
		t.Fatalf("WorldOk(%v) is %t", w, impl.WorldOk(w))
	}
}

// isSame asks whether the World, a right one, is Same.
func isSame(t *testing.T, w impl.World, same bool) {
	t.Helper()
	if impl.Same(w) != same || sameIn(w) != same {
		t.Fatalf("Same(%v) is %t", w, impl.Same(w))
	}
}

// happens asks for this code, and for a right World as the document's words
// make it.
func (k pictureKept) happens(t *testing.T, w impl.World, a impl.Act, code int64) impl.World {
	t.Helper()
	g, n := impl.Happen(w, a)
	want, told := k.happenIn(w, a)
	if n != code || told != code {
		t.Fatalf("Happen(%v, %v) tells %d, not %d", w, a, n, told)
	}
	if !sameWorld(g, want) {
		t.Fatalf("Happen(%v, %v) = %v, not %v", w, a, g, want)
	}
	k.isWorld(t, g)
	return g
}

// unchanged asks for the World as it is, and 1.
func (k pictureKept) unchanged(t *testing.T, w impl.World, a impl.Act) {
	t.Helper()
	if g := k.happens(t, w, a, 1); !sameWorld(g, w) {
		t.Fatalf("Happen(%v, %v) = %v", w, a, g)
	}
}

// plays asks for what Happen makes of it, one by one.
func plays(t *testing.T, w impl.World, list []impl.Act) (impl.World, []int64) {
	t.Helper()
	g, codes := impl.Play(w, list)
	want, told := w, []int64{}
	for _, a := range list {
		next, code := impl.Happen(want, a)
		want, told = next, append(told, code)
	}
	if !slices.Equal(codes, told) || !sameWorld(g, want) {
		t.Fatalf("Play(%v, %v) = %v, %v, not %v, %v", w, list, g, codes, want, told)
	}
	return g, codes
}

func notPlayed(t *testing.T, w impl.World, list []impl.Act) {
	t.Helper()
	if g, codes := impl.Play(w, list); len(codes) != 0 || !isZeroWorld(g) {
		t.Fatalf("Play(%v, %v) = %v, %v", w, list, g, codes)
	}
}

// notWorld asks for the zero World and 2, whatever the Act is.
func (k pictureKept) notWorld(t *testing.T, w impl.World) {
	t.Helper()
	if impl.WorldOk(w) || k.worldIn(w) {
		t.Fatalf("WorldOk(%v) is %t", w, impl.WorldOk(w))
	}
	if impl.Same(w) {
		t.Fatalf("Same(%v) is true", w)
	}
	list := []impl.Act{{}, askOf(keepBy(0, 1, 5)), askOf(impl.Command{}), fetchOf(0, 1), fetchOf(1, 0), fetchOf(0, 0), actOf(7, 0), actOf(-1, -1)}
	for kind := int64(impl.AcStep); kind <= impl.AcTake; kind++ {
		list = append(list, actOf(kind, 0), actOf(kind, 1), actOf(kind, 5))
	}
	for _, a := range list {
		if g, code := impl.Happen(w, a); code != 2 || !isZeroWorld(g) {
			t.Fatalf("Happen(%v, %v) = %v, %d", w, a, g, code)
		}
	}
	notPlayed(t, w, nil)
	notPlayed(t, w, list)
}

// scene is a World that acts happen to, one after the other, all of which are
// held against the document's words; with the Pictures of what is folded of
// none, one and more Commands of its Log, each told once.
type scene struct {
	t        *testing.T
	kept     pictureKept
	world    impl.World
	folded   impl.Desk
	pictures []string
	// codes is how often each Kind was told each of them.
	codes map[[2]int64]int
}

func newScene(t *testing.T, width int64, copies int) *scene {
	t.Helper()
	w, ok := impl.NewWorld(width, int64(copies))
	if !ok || !sameWorld(w, emptyWorld(width, copies)) {
		t.Fatalf("NewWorld(%d, %d) = %v, %t", width, copies, w, ok)
	}
	s := &scene{t: t, kept: pictureKept{}, world: w, folded: emptyDesk(width), codes: map[[2]int64]int{}}
	s.pictures = append(s.pictures, pictureIn(s.folded))
	return s
}

// goesOn asks that the Act do what the document's words have, that the World
// be right behind it, and that all who read the Log have the same.
func (s *scene) goesOn(a impl.Act) int64 {
	s.t.Helper()
	_, code := s.kept.happenIn(s.world, a)
	s.world = s.kept.happens(s.t, s.world, a, code)
	for len(s.pictures) <= len(s.world.Log) {
		s.folded, _ = appliedIn(s.folded, s.world.Log[len(s.pictures)-1])
		s.pictures = append(s.pictures, pictureIn(s.folded))
	}
	for i, c := range s.world.Copies {
		if text := pictureIn(c.Desk); text != s.pictures[c.Applied] {
			s.t.Fatalf("with %v Copy %d has %q, not %q", a, i, text, s.pictures[c.Applied])
		}
		if c.Saved != "" && c.Saved != s.pictures[c.SavedAt] {
			s.t.Fatalf("with %v Copy %d has saved %q, not %q", a, i, c.Saved, s.pictures[c.SavedAt])
		}
		if text := strings.Join(c.Parts, ""); !strings.HasPrefix(s.pictures[c.PartsAt], text) {
			s.t.Fatalf("with %v Copy %d has the Parts %q of %q", a, i, c.Parts, s.pictures[c.PartsAt])
		}
	}
	if !impl.Same(s.world) {
		s.t.Fatalf("with %v Same(%v) is false", a, s.world)
	}
	s.codes[[2]int64{min(max(a.Kind, 0), 7), code}]++
	return code
}

// player draws Acts most of which do something.
type player struct {
	next func(int64) int64
	// queue are the Commands that are asked, one after the other.
	queue []impl.Command
	// to fetches of from, unless they are alike.
	to, from int64
}

func (p *player) one(list []int64) int64 { return list[p.next(int64(len(list)))] }

// which are the Copies of which this is so; or all.
func which(w impl.World, is func(c impl.Copy) bool) []int64 {
	all, some := []int64{}, []int64{}
	for i, c := range w.Copies {
		all = append(all, int64(i))
		if is(c) {
			some = append(some, int64(i))
		}
	}
	if len(some) == 0 {
		return all
	}
	return some
}

func (p *player) asks() impl.Act {
	if len(p.queue) == 0 || p.next(12) == 0 {
		wrong := wrongCommands(p.next(8), 1+p.next(5))
		return askOf(wrong[p.next(int64(len(wrong)))])
	}
	c := p.queue[0]
	p.queue = p.queue[1:]
	return askOf(c)
}

// stray is any Act of any Copies, those that are not there among them.
func (p *player) stray(w impl.World) impl.Act {
	places := append([]int64{-1, int64(len(w.Copies)), 7}, which(w, func(impl.Copy) bool { return false })...)
	return impl.Act{Kind: p.next(8), A: p.one(places), B: p.one(places), Command: keepBy(p.next(9), p.next(4), make([]int64, w.Width)...)}
}

// pairs has who is behind fetch of one who has saved more, if there is any.
func (p *player) pairs(w impl.World) {
	p.from = p.one(which(w, func(c impl.Copy) bool { return c.Saved != "" }))
	p.to = p.one(which(w, func(c impl.Copy) bool { return c.Applied < w.Copies[p.from].SavedAt }))
}

func (p *player) draws(w impl.World) impl.Act {
	if p.to != p.from && p.next(12) > 0 {
		to, from := w.Copies[p.to], w.Copies[p.from]
		if to.PartsAt == from.SavedAt && len(to.Parts) == len(piecesIn(from.Saved)) {
			taken := actOf(impl.AcTake, p.to)
			p.to = p.from
			return taken
		}
		return fetchOf(p.to, p.from)
	}
	kind := p.next(40)
	if kind >= 26 && kind < 33 {
		p.pairs(w)
	}
	switch {
	case kind < 10 && (len(p.queue) > 0 || kind == 0):
		return p.asks()
	case kind < 22:
		return actOf(impl.AcStep, p.one(which(w, func(c impl.Copy) bool { return c.Applied < int64(len(w.Log)) })))
	case kind < 26:
		return actOf(impl.AcSave, p.one(which(w, func(c impl.Copy) bool { return c.Applied > c.SavedAt })))
	case kind < 33:
		return fetchOf(p.to, p.from)
	case kind < 36:
		return actOf(impl.AcCrash, p.one(which(w, func(impl.Copy) bool { return false })))
	case kind < 38:
		return actOf(impl.AcTake, p.one(which(w, func(c impl.Copy) bool { return len(c.Parts) > 0 })))
	}
	return p.stray(w)
}

// tries draws once more, now and then not, where nothing would be done.
func (p *player) tries(k pictureKept, w impl.World) impl.Act {
	a := p.draws(w)
	for range 8 {
		if _, code := k.happenIn(w, a); code != 1 || p.next(12) == 0 {
			break
		}
		a = p.draws(w)
	}
	return a
}

func TestActKindNumbers(t *testing.T) {
	if impl.AcAsk != 1 || impl.AcStep != 2 || impl.AcSave != 3 || impl.AcCrash != 4 || impl.AcFetch != 5 || impl.AcTake != 6 {
		t.Error(impl.AcAsk, impl.AcStep, impl.AcSave, impl.AcCrash, impl.AcFetch, impl.AcTake)
	}
}

func TestNewWorld(t *testing.T) {
	for width := int64(1); width <= 4; width++ {
		for copies := int64(1); copies <= mostCopies; copies++ {
			w, ok := impl.NewWorld(width, copies)
			if !ok || w.Width != width || len(w.Log) != 0 || int64(len(w.Copies)) != copies {
				t.Fatalf("NewWorld(%d, %d) = %v, %t", width, copies, w, ok)
			}
			desk, _ := impl.NewDesk(width)
			for _, c := range w.Copies {
				if !sameCopy(c, impl.Copy{Desk: desk}) || !sameDesk(c.Desk, emptyDesk(width)) {
					t.Fatalf("NewWorld(%d, %d) = %v", width, copies, w)
				}
			}
			pictureKept{}.isWorld(t, w)
			isSame(t, w, true)
		}
	}
}

func TestNewWorldOfWrongNumbers(t *testing.T) {
	for width := int64(1); width <= 4; width++ {
		for _, copies := range noCopies {
			if w, ok := impl.NewWorld(width, copies); ok || !isZeroWorld(w) {
				t.Errorf("NewWorld(%d, %d) = %v, %t", width, copies, w, ok)
			}
		}
	}
	for _, width := range noWidths {
		for _, copies := range append([]int64{1, 2, 3, 4, 5}, noCopies...) {
			if w, ok := impl.NewWorld(width, copies); ok || !isZeroWorld(w) {
				t.Errorf("NewWorld(%d, %d) = %v, %t", width, copies, w, ok)
			}
		}
	}
}

// deskWith is a Desk of Width 1 with these marks, all of them in Web 0 alone,
// the third linked to both ahead of it, the second to the first.
func deskWith(next, dice int64, sessions []impl.Session, list ...impl.Mark) impl.Desk {
	pairs := [][2]int64{{1, 2}, {1, 3}, {2, 3}}[:len(list)*(len(list)-1)/2]
	state := impl.State{Width: 1, Marks: list, Tower: withWeb(emptyTower(dice), 0, webOf(list, pairs...)), Next: next}
	return copyDesk(impl.Desk{State: state, Sessions: sessions})
}

// Each Act by itself, and the World that it leaves, field by field.
func TestHappenOrdinary(t *testing.T) {
	keep, again, other := keepBy(2, 1, 5), keepBy(2, 2, 7), keepBy(0, 1, -3)
	five, seven := impl.Mark{Id: 1, At: []int64{5}}, impl.Mark{Id: 2, At: []int64{7}}
	fresh := impl.Copy{Desk: emptyDesk(1)}
	log := []impl.Command{keep, again, other}
	one := deskWith(2, impl.Rolled(1), []impl.Session{{Client: 2, Seq: 1, Reply: 1}}, five)
	two := deskWith(3, impl.Rolled(impl.Rolled(1)), []impl.Session{{Client: 2, Seq: 2, Reply: 2}}, five, seven)
	one.State.Tower.Webs[1] = webOf(one.State.Marks)
	two.State.Tower.Webs[1] = webOf(one.State.Marks)
	text := "1 3 143965 7\n1 1 2 5\n2 1 1 7\n2\n1\n-\n2 2 2\n"
	saved := text + fmt.Sprint(checkIn(text)) + "\n"
	parts := []string{saved[:40], saved[40:]}
	kept, w := pictureKept{}, emptyWorld(1, 2)
	for i, c := range []struct {
		act  impl.Act
		log  int
		a, b impl.Copy
	}{
		{askOf(keep), 1, fresh, fresh},
		{actOf(impl.AcStep, 0), 1, impl.Copy{Desk: one, Applied: 1}, fresh},
		{askOf(again), 2, impl.Copy{Desk: one, Applied: 1}, fresh},
		{askOf(other), 3, impl.Copy{Desk: one, Applied: 1}, fresh},
		{actOf(impl.AcStep, 0), 3, impl.Copy{Desk: two, Applied: 2}, fresh},
		{actOf(impl.AcSave, 0), 3, impl.Copy{Desk: two, Applied: 2, Saved: saved, SavedAt: 2}, fresh},
		{fetchOf(1, 0), 3, impl.Copy{Desk: two, Applied: 2, Saved: saved, SavedAt: 2}, impl.Copy{Desk: emptyDesk(1), Parts: parts[:1], PartsAt: 2}},
		{actOf(impl.AcStep, 1), 3, impl.Copy{Desk: two, Applied: 2, Saved: saved, SavedAt: 2}, impl.Copy{Desk: one, Applied: 1, Parts: parts[:1], PartsAt: 2}},
		{fetchOf(1, 0), 3, impl.Copy{Desk: two, Applied: 2, Saved: saved, SavedAt: 2}, impl.Copy{Desk: one, Applied: 1, Parts: parts, PartsAt: 2}},
		{actOf(impl.AcTake, 1), 3, impl.Copy{Desk: two, Applied: 2, Saved: saved, SavedAt: 2}, impl.Copy{Desk: two, Applied: 2, Saved: saved, SavedAt: 2}},
		{fetchOf(0, 1), 3, impl.Copy{Desk: two, Applied: 2, Saved: saved, SavedAt: 2, Parts: parts[:1], PartsAt: 2}, impl.Copy{Desk: two, Applied: 2, Saved: saved, SavedAt: 2}},
		{actOf(impl.AcCrash, 0), 3, impl.Copy{Desk: two, Applied: 2, Saved: saved, SavedAt: 2}, impl.Copy{Desk: two, Applied: 2, Saved: saved, SavedAt: 2}},
	} {
		g, code := impl.Happen(w, c.act)
		if want := (impl.World{Width: 1, Log: log[:c.log], Copies: []impl.Copy{c.a, c.b}}); code != 0 || !sameWorld(g, want) {
			t.Fatalf("%d: Happen(%v, %v) = %v, %d, not %v", i, w, c.act, g, code, want)
		}
		w = kept.happens(t, w, c.act, 0)
		isSame(t, w, true)
	}
}

// What a Copy that crashes has, where something was saved and where nothing.
func TestCrashOrdinary(t *testing.T) {
	kept, w := pictureKept{}, emptyWorld(2, 3)
	for _, c := range []impl.Command{keepBy(0, 1, 1, 2), keepBy(0, 2, 3, 4), goneBy(0, 3, 1)} {
		w = kept.happens(t, w, askOf(c), 0)
	}
	for _, a := range []int64{0, 1, 1} {
		w = kept.happens(t, w, actOf(impl.AcStep, a), 0)
	}
	w = kept.happens(t, w, actOf(impl.AcSave, 1), 0)
	w = kept.happens(t, w, fetchOf(0, 1), 0)
	w = kept.happens(t, w, actOf(impl.AcStep, 1), 0)
	w = kept.happens(t, w, actOf(impl.AcCrash, 0), 0)
	if !sameCopy(w.Copies[0], impl.Copy{Desk: emptyDesk(2)}) {
		t.Errorf("nothing was saved, and it has %v", w.Copies[0])
	}
	two, _ := impl.Folded(2, w.Log[:2])
	w = kept.happens(t, w, actOf(impl.AcCrash, 1), 0)
	want := impl.Copy{Desk: two, Applied: 2, Saved: impl.Picture(two), SavedAt: 2}
	if !sameCopy(w.Copies[1], want) {
		t.Errorf("it has %v, not %v", w.Copies[1], want)
	}
	// Again, and where nothing was done at all.
	w = kept.happens(t, w, actOf(impl.AcCrash, 1), 0)
	w = kept.happens(t, w, actOf(impl.AcCrash, 2), 0)
	if !sameCopy(w.Copies[1], want) || !sameCopy(w.Copies[2], impl.Copy{Desk: emptyDesk(2)}) {
		t.Errorf("they have %v", w.Copies)
	}
	isSame(t, w, true)
}

// Promise 19: of a new World, after scripts of up to 190 Acts and behind each
// one of them. What Play makes of all is the same.
func TestWhoeverReadsItHasTheSame(t *testing.T) {
	codes, seed := map[[2]int64]int{}, uint64(245)
	for width := int64(1); width <= 4; width++ {
		for copies := 1; copies <= mostCopies; copies++ {
			for _, asked := range []int64{1, 5, 5, 12, 25, 25, 50, 100, 100} {
				next := walkOf(seed)
				seed += 1000
				s, p := newScene(t, width, copies), player{next: next, queue: script(next, width, asked, 1+next(8))}
				list := []impl.Act{}
				for range 190 - next(2)*next(190) {
					list = append(list, p.tries(s.kept, s.world))
					s.goesOn(list[len(list)-1])
				}
				w, _ := impl.NewWorld(width, int64(copies))
				if g, told := impl.Play(w, list); len(told) != len(list) || !sameWorld(g, s.world) {
					t.Fatalf("Play(%v, %v) = %v, not %v", w, list, g, s.world)
				}
				for code, many := range s.codes {
					codes[code] += many
				}
			}
		}
	}
	done, undone := 0, 0
	for code, many := range codes {
		if code[1] == 1 {
			undone += many
		} else {
			done += many
		}
	}
	for kind := int64(1); kind <= 6; kind++ {
		if codes[[2]int64{kind, 0}] < 50 || codes[[2]int64{kind, 1}] < 3 {
			t.Errorf("%d was told %v", kind, codes)
		}
	}
	if done < 3*undone || codes[[2]int64{6, 3}] < 50 {
		t.Errorf("%d did something, %d nothing: %v", done, undone, codes)
	}
}

// playedOut is a World after a script of Acts drawn, with so many Commands
// asked.
func playedOut(start uint64, width int64, copies int, asked int64, acts int) (pictureKept, impl.World) {
	next, kept := walkOf(start), pictureKept{}
	w, p := emptyWorld(width, copies), player{next: next, queue: script(next, width, asked, 1+next(8))}
	for range acts {
		w, _ = impl.Happen(w, p.tries(kept, w))
	}
	return kept, w
}

// read is the World with so many Commands asked, of which its first Copy has
// applied some and saved them.
func read(t *testing.T, list []impl.Command, width int64, copies int, applied int) impl.World {
	t.Helper()
	w := emptyWorld(width, copies)
	w.Log = list
	acts := append(slices.Repeat([]impl.Act{actOf(impl.AcStep, 0)}, applied), actOf(impl.AcSave, 0))
	w, codes := impl.Play(w, acts)
	if slices.Max(codes) != 0 || w.Copies[0].SavedAt != int64(applied) {
		t.Fatalf("Play(%v) = %v, %v", acts, w, codes)
	}
	return w
}

// Who has fetched all pieces of what is saved, and takes them, has just the
// Desk that was saved, and both its numbers; and so has who fetches it of that
// one.
func TestTakenIsWhatWasSaved(t *testing.T) {
	next, kept := walkOf(246), pictureKept{}
	for width := int64(1); width <= 4; width++ {
		for _, applied := range []int{1, 2, 7, 30, 99, 100} {
			w := read(t, script(next, width, 100, 8), width, 4, applied)
			for to := int64(1); to <= 3; to++ {
				from := []int64{0, 0, 0, 2}[to]
				saved := w.Copies[from]
				pieces := piecesIn(saved.Saved)
				for i := range pieces {
					w, _ = impl.Happen(w, fetchOf(to, from))
					if c := w.Copies[to]; !slices.Equal(c.Parts, pieces[:i+1]) || c.PartsAt != int64(applied) || c.Applied != 0 {
						t.Fatalf("with %d pieces of %q it is %v", i+1, saved.Saved, c)
					}
					// Who has saved goes on, and falls; what is saved stays.
					w, _ = impl.Happen(w, actOf(impl.AcStep, from))
					w, _ = impl.Happen(w, actOf(impl.AcCrash, from))
				}
				kept.unchanged(t, w, fetchOf(to, from))
				w = kept.happens(t, w, actOf(impl.AcTake, to), 0)
				want := impl.Copy{Desk: saved.Desk, Applied: int64(applied), Saved: saved.Saved, SavedAt: int64(applied)}
				if !sameCopy(w.Copies[to], want) {
					t.Fatalf("it took %v, not %v", w.Copies[to], want)
				}
				kept.unchanged(t, w, actOf(impl.AcTake, to))
				isSame(t, w, true)
			}
		}
	}
}

// Who crashes has the Desk of its Saved, or a new one, after any script.
func TestCrashedHasWhatWasSaved(t *testing.T) {
	saved := map[bool]int{}
	for i := range 60 {
		kept, w := playedOut(uint64(247000+i), int64(i%4)+1, i%5+1, 40, 4+2*i)
		for a, c := range w.Copies {
			g := kept.happens(t, w, actOf(impl.AcCrash, int64(a)), 0)
			desk, ok := impl.Drawn(c.Saved)
			if !ok {
				desk, _ = impl.NewDesk(w.Width)
			}
			folded, _ := impl.Folded(w.Width, w.Log[:c.SavedAt])
			want := impl.Copy{Desk: desk, Applied: c.SavedAt, Saved: c.Saved, SavedAt: c.SavedAt}
			if !sameCopy(g.Copies[a], want) || !sameDesk(desk, folded) || ok != (c.Saved != "") {
				t.Fatalf("of %v it has %v, not %v", c, g.Copies[a], want)
			}
			for other := range w.Copies {
				if other != a && !sameCopy(g.Copies[other], w.Copies[other]) {
					t.Fatalf("with %d Copy %d crashes too: %v", a, other, g)
				}
			}
			isSame(t, g, true)
			saved[ok]++
		}
	}
	if min(saved[true], saved[false]) < 20 {
		t.Errorf("they are %v", saved)
	}
}

// Somebody saves anew while another one fetches: it begins anew, and has what
// is saved now.
func TestFetchedAgainWhenSavedAnew(t *testing.T) {
	next, kept := walkOf(248), pictureKept{}
	for width := int64(1); width <= 4; width++ {
		for _, fetched := range []int{1, 2, 3, 5} {
			w := read(t, script(next, width, 60, 5), width, 3, 30)
			for range fetched {
				w = kept.happens(t, w, fetchOf(2, 0), 0)
			}
			w = kept.happens(t, w, actOf(impl.AcSave, 0), 0)
			w = kept.happens(t, w, fetchOf(2, 0), 0)
			if c := w.Copies[2]; len(c.Parts) != fetched+1 || c.PartsAt != 30 {
				t.Fatalf("it was saved again by the same number, and it is %v", c)
			}
			w = kept.happens(t, w, actOf(impl.AcStep, 0), 0)
			w = kept.happens(t, w, actOf(impl.AcSave, 0), 0)
			pieces := piecesIn(w.Copies[0].Saved)
			for i := range pieces {
				w = kept.happens(t, w, fetchOf(2, 0), 0)
				if c := w.Copies[2]; !slices.Equal(c.Parts, pieces[:i+1]) || c.PartsAt != 31 {
					t.Fatalf("it was saved anew, and it is %v", c)
				}
			}
			w = kept.happens(t, w, actOf(impl.AcTake, 2), 0)
			if w.Copies[2].Applied != 31 || !sameDesk(w.Copies[2].Desk, w.Copies[0].Desk) {
				t.Fatalf("it took %v", w.Copies[2])
			}
			isSame(t, w, true)
		}
	}
}

// The pieces of those who saved as many Commands are one another's.
func TestFetchedOfTwoInTurn(t *testing.T) {
	next, kept := walkOf(249), pictureKept{}
	for width := int64(1); width <= 4; width++ {
		w := read(t, script(next, width, 40, 5), width, 3, 40)
		w.Copies[1] = copyOf(w.Copies[0])
		for i := range piecesIn(w.Copies[0].Saved) {
			w = kept.happens(t, w, fetchOf(2, int64(i)%2), 0)
		}
		kept.unchanged(t, w, fetchOf(2, 0))
		kept.unchanged(t, w, fetchOf(2, 1))
		w = kept.happens(t, w, actOf(impl.AcTake, 2), 0)
		if !sameCopy(w.Copies[2], w.Copies[0]) {
			t.Errorf("it took %v, not %v", w.Copies[2], w.Copies[0])
		}
	}
}

func TestPlayOrdinary(t *testing.T) {
	w, _ := impl.NewWorld(1, 2)
	list := []impl.Act{
		askOf(keepBy(2, 1, 5)), actOf(impl.AcStep, 0), actOf(impl.AcStep, 0), fetchOf(1, 0), actOf(impl.AcSave, 0), fetchOf(1, 0), actOf(impl.AcTake, 1), actOf(impl.AcTake, 1),
		actOf(impl.AcCrash, 1), fetchOf(1, 0), actOf(impl.AcTake, 1), fetchOf(1, 1), {}, askOf(impl.Command{}), actOf(impl.AcStep, 2),
	}
	g, codes := plays(t, w, list)
	if !slices.Equal(codes, []int64{0, 0, 1, 1, 0, 0, 0, 1, 0, 0, 3, 1, 1, 1, 1}) {
		t.Errorf("they are told %v", codes)
	}
	if len(g.Log) != 1 || !sameCopy(g.Copies[0], g.Copies[1]) || g.Copies[1].Applied != 1 || len(g.Copies[1].Desk.State.Marks) != 1 {
		t.Errorf("it is %v", g)
	}
}

// Play is Happen one by one, from any World on; and of a list it is that of
// its first part, from which it goes on.
func TestPlayIsHappenOneByOne(t *testing.T) {
	for i := range 40 {
		kept, w := playedOut(uint64(250000+i), int64(i%4)+1, i%5+1, 50, i*4)
		p, list, end := player{next: walkOf(uint64(251000 + i)), queue: script(walkOf(uint64(i)), w.Width, 30, 8)}, []impl.Act{}, w
		for range 40 + 4*i {
			a := p.draws(end)
			list = append(list, a)
			end, _ = kept.happenIn(end, a)
		}
		whole, codes := plays(t, w, list)
		if !sameWorld(whole, end) {
			t.Fatalf("Play(%v, %v) = %v, not %v", w, list, whole, end)
		}
		first := int(p.next(int64(len(list))))
		part, begun := impl.Play(w, list[:first])
		part, rest := impl.Play(part, list[first:])
		if !sameWorld(part, whole) || !slices.Equal(append(begun, rest...), codes) {
			t.Fatalf("parted at %d: %v, not %v", first, part, whole)
		}
	}
}

// No Acts at all, 200 and more.
func TestPlayUpToMany(t *testing.T) {
	for width := int64(1); width <= 4; width++ {
		for _, copies := range []int{1, mostCopies} {
			_, w := playedOut(252, width, copies, 20, 80)
			for _, none := range [][]impl.Act{nil, {}} {
				if g, codes := plays(t, w, none); len(codes) != 0 || !sameWorld(g, w) {
					t.Fatalf("Play(%v, %v) = %v, %v", w, none, g, codes)
				}
			}
			p, list := player{next: walkOf(253), queue: script(walkOf(254), width, 100, 8)}, []impl.Act{}
			for range 300 {
				list = append(list, p.stray(w), p.asks(), actOf(1+p.next(6), p.next(int64(copies))))
			}
			for _, many := range []int{1, 199, mostActs} {
				if _, codes := plays(t, w, list[:many]); len(codes) != many {
					t.Fatalf("%d are told %v", many, codes)
				}
			}
			for _, many := range []int{mostActs + 1, mostActs + 2, 2 * mostActs, 900} {
				notPlayed(t, w, list[:many])
				notPlayed(t, w, make([]impl.Act, many))
			}
			if _, codes := plays(t, w, make([]impl.Act, mostActs)); !slices.Equal(codes, slices.Repeat([]int64{1}, mostActs)) {
				t.Fatalf("of no Kind they are told %v", codes)
			}
		}
	}
}

// stillLog has Commands at which a Desk stays as it is, and ones that are told
// again, not kept, not there or out of turn.
func stillLog() []impl.Command {
	return []impl.Command{keepBy(0, 1, 5), keepBy(0, 1, 9), keepBy(1, 5, 1), keepBy(0, 2, 3), goneBy(0, 1, 1), goneBy(0, 3, 1), keepBy(7, 1, 1, 2), keepBy(7, 1, 8), goneBy(0, 9, 2)}
}

// Two Copies with any numbers and any Desks of those that the Log leaves
// behind: it is Same where each has the Desk of its own number.
func TestSameOfAnyTwo(t *testing.T) {
	log, desks, many := stillLog(), []impl.Desk{emptyDesk(1)}, map[bool]int{}
	for i := range log {
		d, _ := foldedIn(1, log[:i+1])
		desks = append(desks, d)
	}
	for i := range desks {
		for j := range desks {
			for a, one := range desks {
				for b, other := range desks {
					w := impl.World{Width: 1, Log: log, Copies: []impl.Copy{{Desk: one, Applied: int64(i)}, {Desk: other, Applied: int64(j)}}}
					same := sameDesk(one, desks[i]) && sameDesk(other, desks[j])
					if impl.Same(w) != same || !impl.WorldOk(w) {
						t.Fatalf("Same of the Desks %d and %d with %d and %d is %t", a, b, i, j, !same)
					}
					if i == j && a != b {
						many[same]++
					}
				}
			}
		}
	}
	if min(many[true], many[false]) < 10 {
		t.Errorf("of two with one number and different places they are %v", many)
	}
}

func TestSameOrdinary(t *testing.T) {
	log := []impl.Command{keepBy(0, 1, 5), keepBy(1, 1, 7), goneBy(0, 2, 1)}
	desks := []impl.Desk{emptyDesk(1)}
	for i := range log {
		d, _ := impl.Folded(1, log[:i+1])
		desks = append(desks, d)
	}
	of := func(copies ...impl.Copy) impl.World { return impl.World{Width: 1, Log: log, Copies: copies} }
	read := func(desk, applied int) impl.Copy { return impl.Copy{Desk: desks[desk], Applied: int64(applied)} }
	for _, c := range []struct {
		world impl.World
		same  bool
	}{
		{of(read(0, 0)), true},
		{of(read(3, 3)), true},
		{of(read(2, 2), read(2, 2)), true},
		{of(read(2, 2), read(3, 2)), false},
		{of(read(3, 2), read(2, 2)), false},
		{of(read(3, 2), read(3, 2)), false},
		{of(read(0, 0), read(1, 1), read(2, 2), read(3, 3)), true},
		{of(read(0, 0), read(1, 1), read(2, 2), read(2, 3)), false},
		{of(read(1, 0), read(1, 1), read(2, 2), read(3, 3)), false},
		{of(read(3, 3), read(0, 0), read(3, 3), read(0, 0), read(1, 1)), true},
		{of(read(3, 3), read(0, 0), read(1, 3), read(0, 0), read(1, 1)), false},
		{of(read(1, 0)), false},
		{of(read(0, 3)), false},
	} {
		isSame(t, c.world, c.same)
	}
}

// otherDesks are right Desks that are like this one but for one thing.
func otherDesks(d impl.Desk) []impl.Desk {
	list := []impl.Desk{}
	with := func(change func(d *impl.Desk)) {
		other := copyDesk(d)
		change(&other)
		if deskIn(other) && !sameDesk(other, d) {
			list = append(list, other)
		}
	}
	with(func(d *impl.Desk) { d.State.Next++ })
	with(func(d *impl.Desk) { d.State.Tower.Dice++ })
	with(func(d *impl.Desk) { d.State.Tower.Dice = 0 })
	with(func(d *impl.Desk) { d.Sessions = nil })
	for i := range d.Sessions {
		with(func(d *impl.Desk) { d.Sessions[i].Reply++ })
		with(func(d *impl.Desk) { d.Sessions[i].Seq++ })
		with(func(d *impl.Desk) { d.Sessions = without(d.Sessions, i) })
	}
	for i, m := range d.State.Marks {
		with(func(d *impl.Desk) { d.State.Marks = without(d.State.Marks, i) })
		with(func(d *impl.Desk) {
			for _, w := range append(d.State.Tower.Webs, impl.Web{Marks: d.State.Marks}) {
				for _, one := range w.Marks {
					if one.Id == m.Id {
						one.At[0] = 1000 - one.At[0]
					}
				}
			}
		})
	}
	for n := range d.State.Tower.Webs {
		with(func(d *impl.Desk) { d.State.Tower.Webs[n].Links = make([][]int64, len(d.State.Tower.Webs[n].Marks)) })
		with(func(d *impl.Desk) { d.State.Tower.Webs[n] = impl.Web{} })
	}
	return list
}

// One of the Copies, wherever it stands, has a Desk that is other than that of
// the Log in one thing only.
func TestSameWithOneThingOther(t *testing.T) {
	next := walkOf(255)
	for width := int64(1); width <= 4; width++ {
		log := script(next, width, 30, 5)
		for copies := 1; copies <= mostCopies; copies++ {
			w := impl.World{Width: width, Log: log}
			for at := range copies {
				applied := []int64{30, 30, 7, next(31), 30}[at]
				d, _ := impl.Folded(width, log[:applied])
				w.Copies = append(w.Copies, impl.Copy{Desk: d, Applied: applied})
			}
			isSame(t, w, true)
			for at, c := range w.Copies {
				for i, d := range otherDesks(c.Desk) {
					g := copyWorld(w)
					g.Copies[at].Desk = d
					if impl.Same(g) || !impl.WorldOk(g) {
						t.Fatalf("Same(%v) is true", g)
					}
					if i%10 == 0 {
						isSame(t, g, false)
					}
				}
			}
		}
	}
}

// What is saved or fetched is not asked: it may be of any Desk.
func TestSameWhateverIsSaved(t *testing.T) {
	kept, w := playedOut(256, 2, 3, 20, 120)
	isSame(t, w, true)
	other := impl.Picture(fewLined())
	for at := range w.Copies {
		for _, saved := range []int64{0, 1, int64(len(w.Log))} {
			g := copyWorld(w)
			c := &g.Copies[at]
			c.Saved, c.SavedAt, c.Parts, c.PartsAt = other, saved, piecesIn(other), saved
			kept.isWorld(t, g)
			isSame(t, g, true)
			// But it may come to be what a Copy has.
			isSame(t, kept.happens(t, g, actOf(impl.AcCrash, int64(at)), 0), false)
		}
	}
}

// A Log of 99 takes one more; of 100 none. All of them can be applied.
func TestLogUpToMany(t *testing.T) {
	next, kept := walkOf(257), pictureKept{}
	for width := int64(1); width <= 4; width++ {
		long := script(next, width, 150, 8)
		w := emptyWorld(width, 2)
		w.Log = long[:mostLogged-1]
		w = kept.happens(t, w, askOf(long[99]), 0)
		if len(w.Log) != mostLogged || !sameCommand(w.Log[99], long[99]) {
			t.Fatalf("the Log is %v", w.Log)
		}
		kept.unchanged(t, w, askOf(long[100]))
		kept.unchanged(t, w, askOf(long[99]))
		for i := range mostLogged {
			w = kept.happens(t, w, actOf(impl.AcStep, 1), 0)
			if w.Copies[1].Applied != int64(i)+1 {
				t.Fatalf("it has applied %d", w.Copies[1].Applied)
			}
		}
		kept.unchanged(t, w, actOf(impl.AcStep, 1))
		kept.unchanged(t, w, askOf(long[100]))
		w = kept.happens(t, w, actOf(impl.AcSave, 1), 0)
		isSame(t, w, true)
		for _, many := range []int{101, 102, 150} {
			over := emptyWorld(width, 2)
			over.Log = long[:many]
			kept.notWorld(t, over)
		}
	}
}

// deskAsLong is a right Desk of Width 1 whose Picture has at least so many
// bytes, and few more: it has as many links as it takes.
func deskAsLong(count int) impl.Desk {
	list := axisMarks(1, 0, risingIds(1, impl.MaxMarks)...)
	pairs, n := allPairs(idsOfMarks(list)), 0
	made := func(n int) impl.Desk {
		tower := emptyTower(1)
		for i := range tower.Webs {
			some := min(n, len(pairs))
			tower.Webs[i], n = webOf(list, pairs[:some]...), n-some
		}
		return impl.Desk{State: impl.State{Width: 1, Marks: list, Tower: tower, Next: impl.MaxMarks + 1}}
	}
	for step := 4096; step > 0; step /= 2 {
		if len(pictureIn(made(n+step))) < count {
			n += step
		}
	}
	return copyDesk(made(n + 1))
}

// longWorld has two Copies: the first has saved this Desk, the second fetched
// so many of its pieces.
func longWorld(d impl.Desk, fetched int) impl.World {
	w := emptyWorld(d.State.Width, 2)
	w.Log = []impl.Command{goneBy(0, 1, 1), goneBy(0, 2, 1)}
	w.Copies[0].Saved, w.Copies[0].SavedAt = pictureIn(d), 2
	w.Copies[1].Parts, w.Copies[1].PartsAt = piecesIn(w.Copies[0].Saved)[:fetched], 2
	return w
}

// 399 Parts take one more; 400 none, unless it begins anew.
func TestPartsUpToMany(t *testing.T) {
	kept, d := pictureKept{}, deskAsLong(mostParts*fetchedBy+500)
	pieces := piecesIn(pictureIn(d))
	w := longWorld(d, mostParts-2)
	for many := mostParts - 1; many <= mostParts; many++ {
		w = kept.happens(t, w, fetchOf(1, 0), 0)
		if !slices.Equal(w.Copies[1].Parts, pieces[:many]) {
			t.Fatalf("the Parts are %d", len(w.Copies[1].Parts))
		}
	}
	kept.unchanged(t, w, fetchOf(1, 0))
	// It is less than the Picture.
	g := kept.happens(t, w, actOf(impl.AcTake, 1), 3)
	if !sameWorld(g, impl.World{Width: 1, Log: w.Log, Copies: []impl.Copy{w.Copies[0], emptyWorld(1, 1).Copies[0]}}) {
		t.Fatalf("it is %v", g)
	}
	// Of another number, or of fewer pieces, it begins anew.
	for _, at := range []int64{0, 1} {
		w.Copies[1].PartsAt = at
		g = kept.happens(t, w, fetchOf(1, 0), 0)
		if c := g.Copies[1]; !slices.Equal(c.Parts, pieces[:1]) || c.PartsAt != 2 {
			t.Fatalf("it is %v", c)
		}
	}
	w.Copies[1].PartsAt = 2
	for _, less := range []impl.Desk{emptyDesk(1), deskAsLong(5000), deskAsLong((mostParts-1)*fetchedBy - 20)} {
		w.Copies[0].Saved = pictureIn(less)
		g = kept.happens(t, w, fetchOf(1, 0), 0)
		if c := g.Copies[1]; len(c.Parts) != 1 || c.Parts[0] != w.Copies[0].Saved[:min(fetchedBy, len(w.Copies[0].Saved))] || c.PartsAt != 2 {
			t.Fatalf("it is %v", c)
		}
	}
	w.Copies[1].Parts = append(slices.Clone(w.Copies[1].Parts), "")
	kept.notWorld(t, w)
}

// A Picture of just 400 pieces can be fetched and taken, one of 401 can't.
func TestPicturesUpToManyPieces(t *testing.T) {
	kept := pictureKept{}
	for many := mostParts - 1; many <= mostParts+1; many++ {
		d := deskAsLong((many-1)*fetchedBy + 5)
		if pieces := piecesIn(pictureIn(d)); len(pieces) != many {
			t.Fatalf("there are %d pieces, not %d", len(pieces), many)
		}
		w := longWorld(d, many-3)
		for range min(3, mostParts-many+3) {
			w = kept.happens(t, w, fetchOf(1, 0), 0)
		}
		kept.unchanged(t, w, fetchOf(1, 0))
		if many > mostParts {
			kept.happens(t, w, actOf(impl.AcTake, 1), 3)
			continue
		}
		g := kept.happens(t, w, actOf(impl.AcTake, 1), 0)
		if !sameCopy(g.Copies[1], impl.Copy{Desk: d, Applied: 2, Saved: pictureIn(d), SavedAt: 2}) {
			t.Fatalf("it took %v", g.Copies[1])
		}
	}
}

// Of a Picture with more bytes than are told in pieces nothing is fetched,
// whatever there is already; but it can be saved, taken and fallen back upon.
func TestFetchOfTooLong(t *testing.T) {
	kept, d := pictureKept{}, longDesk()
	text := pictureIn(d)
	w := emptyWorld(4, 2)
	w.Log = []impl.Command{goneBy(0, impl.MaxId, 1)}
	w.Copies[0] = impl.Copy{Desk: d}
	if len(text) <= mostPieced {
		t.Fatalf("it has %d bytes", len(text))
	}
	w = kept.happens(t, w, actOf(impl.AcSave, 0), 0)
	for _, parts := range [][]string{nil, {"x"}, {text[:40]}, {text[:40], text[40:80]}} {
		for at := int64(0); at <= 1; at++ {
			w.Copies[1].Parts, w.Copies[1].PartsAt = parts, at
			kept.unchanged(t, w, fetchOf(1, 0))
		}
	}
	w = kept.happens(t, w, actOf(impl.AcCrash, 0), 0)
	w = kept.happens(t, w, actOf(impl.AcStep, 0), 0)
	w.Copies[1].Parts, w.Copies[1].PartsAt = impl.Pieces(text[:mostPieced], mostPiece), 1
	w.Copies[1].Parts = append(w.Copies[1].Parts, impl.Pieces(text[mostPieced:], mostPiece)...)
	w = kept.happens(t, w, actOf(impl.AcTake, 1), 0)
	if !sameCopy(w.Copies[1], impl.Copy{Desk: d, Applied: 1, Saved: text, SavedAt: 1}) {
		t.Errorf("it took another one")
	}
}

// Pictures whose last piece is a whole one, a byte, a byte less than a whole
// one, and any.
func TestFetchedOfAllLengths(t *testing.T) {
	next, lasts := walkOf(258), map[int]int{}
	for width := int64(1); width <= 4; width++ {
		log := script(next, width, mostLogged, 6)
		for applied := 1; applied <= mostLogged; applied++ {
			d, _ := impl.Folded(width, log[:applied])
			text := impl.Picture(d)
			w := emptyWorld(width, 2)
			w.Log = log
			w.Copies[0] = impl.Copy{Desk: d, Applied: int64(applied), Saved: text, SavedAt: int64(applied)}
			many := (len(text) + fetchedBy - 1) / fetchedBy
			w, codes := impl.Play(w, append(slices.Repeat([]impl.Act{fetchOf(1, 0)}, many), fetchOf(1, 0)))
			if !slices.Equal(codes, append(make([]int64, many), 1)) || strings.Join(w.Copies[1].Parts, "") != text {
				t.Fatalf("of %q there are %q, %v", text, w.Copies[1].Parts, codes)
			}
			for _, part := range w.Copies[1].Parts[:many-1] {
				if len(part) != fetchedBy {
					t.Fatalf("of %q there are %q", text, w.Copies[1].Parts)
				}
			}
			w, code := impl.Happen(w, actOf(impl.AcTake, 1))
			if code != 0 || !sameCopy(w.Copies[1], w.Copies[0]) {
				t.Fatalf("of %q it took %v", text, w.Copies[1])
			}
			lasts[len(text)%fetchedBy]++
		}
	}
	if min(lasts[0], lasts[1], lasts[39]) == 0 || len(lasts) < 30 {
		t.Errorf("the last ones have %v bytes", lasts)
	}
}

// fiveRead is a World of this Width with five Commands, of whose two Copies
// the first has applied and saved three, and the pieces of what is saved.
func fiveRead(t *testing.T, width int64) (impl.World, []string) {
	t.Helper()
	log := []impl.Command{}
	for i := range int64(5) {
		log = append(log, keepBy(i%2, i/2+1, slices.Repeat([]int64{i}, int(width))...))
	}
	w := read(t, log, width, 2, 3)
	return w, piecesIn(w.Copies[0].Saved)
}

func TestFetchEdges(t *testing.T) {
	kept := pictureKept{}
	for width := int64(1); width <= 4; width++ {
		w, pieces := fiveRead(t, width)
		last := len(pieces) - 1
		for _, c := range []struct {
			parts []string
			at    int64
			want  []string
		}{
			{nil, 0, pieces[:1]}, {nil, 3, pieces[:1]}, {nil, 5, pieces[:1]},
			{pieces[:1], 3, pieces[:2]}, {pieces[:last], 3, pieces},
			{pieces[:1], 2, pieces[:1]}, {pieces[:last], 4, pieces[:1]}, {pieces, 2, pieces[:1]}, {pieces, 0, pieces[:1]}, {pieces, 5, pieces[:1]},
			{append(slices.Clone(pieces), ""), 3, pieces[:1]}, {append(slices.Clone(pieces), "more"), 3, pieces[:1]}, {slices.Repeat(pieces, 2), 3, pieces[:1]},
			{[]string{"x"}, 3, []string{"x", pieces[1]}}, {[]string{""}, 3, []string{"", pieces[1]}}, {[]string{"x"}, 2, pieces[:1]}, {[]string{pieces[1]}, 3, []string{pieces[1], pieces[1]}},
		} {
			w.Copies[1].Parts, w.Copies[1].PartsAt = c.parts, c.at
			g := kept.happens(t, w, fetchOf(1, 0), 0)
			want := w.Copies[1]
			want.Parts, want.PartsAt = c.want, 3
			if !sameCopy(g.Copies[1], want) || !sameCopy(g.Copies[0], w.Copies[0]) {
				t.Fatalf("of %q, %d it is %v", c.parts, c.at, g)
			}
		}
		// All is fetched, if these are not the pieces too.
		for _, parts := range [][]string{pieces, slices.Repeat([]string{"x"}, len(pieces)), make([]string, len(pieces))} {
			w.Copies[1].Parts, w.Copies[1].PartsAt = parts, 3
			kept.unchanged(t, w, fetchOf(1, 0))
		}
		// Nothing is saved, whatever there is already.
		for _, parts := range [][]string{nil, {"x"}, {""}, pieces[:1], pieces} {
			for at := int64(0); at <= 5; at++ {
				w.Copies[0].Parts, w.Copies[0].PartsAt = parts, at
				kept.unchanged(t, w, fetchOf(0, 1))
			}
		}
	}
}

// Its Desk, Saved and both numbers are theirs where there are more Commands in
// it than are applied, however many are saved; else only the Parts go.
func TestTakenInTime(t *testing.T) {
	kept := pictureKept{}
	for width := int64(1); width <= 4; width++ {
		w, pieces := fiveRead(t, width)
		for at := int64(0); at <= 5; at++ {
			for applied := int64(0); applied <= 5; applied++ {
				for saved := int64(-1); saved <= 5; saved += 2 {
					c := impl.Copy{Desk: emptyDesk(width), Applied: applied, Parts: pieces, PartsAt: at}
					if saved >= 0 {
						c.Saved, c.SavedAt = pictureIn(emptyDesk(width)), saved
					}
					w.Copies[1] = c
					code, want := int64(3), c
					want.Parts, want.PartsAt = nil, 0
					if at > applied {
						code, want = 0, impl.Copy{Desk: w.Copies[0].Desk, Applied: at, Saved: w.Copies[0].Saved, SavedAt: at}
					}
					g := kept.happens(t, w, actOf(impl.AcTake, 1), code)
					if !sameCopy(g.Copies[1], want) || !sameCopy(g.Copies[0], w.Copies[0]) {
						t.Fatalf("of %v it is %v", c, g)
					}
				}
			}
		}
	}
}

// Parts of which nothing is drawn, and such as make a Picture all the same,
// however they are parted.
func TestTakeEdges(t *testing.T) {
	kept := pictureKept{}
	for width := int64(1); width <= 4; width++ {
		w, pieces := fiveRead(t, width)
		text := strings.Join(pieces, "")
		last := len(pieces) - 1
		other := pictureIn(emptyDesk(width%4 + 1))
		turned := append([]string{pieces[1], pieces[0]}, pieces[2:]...)
		for _, parts := range [][]string{
			pieces[:1], pieces[:last], pieces[1:], without(pieces, last/2), turned, append(slices.Clone(pieces), pieces[0]), append(slices.Clone(pieces), "\n"), slices.Repeat(pieces, 2),
			{""}, {"", ""}, {"x"}, make([]string, mostParts), slices.Repeat([]string{strings.Repeat("1", mostPiece)}, mostParts), {text[:len(text)-1]}, {" " + text},
			piecesIn(other), {other}, {other, text}, {other, ""},
		} {
			w.Copies[1].Parts, w.Copies[1].PartsAt = parts, 5
			g := kept.happens(t, w, actOf(impl.AcTake, 1), 3)
			if want := (impl.World{Width: width, Log: w.Log, Copies: []impl.Copy{w.Copies[0], {Desk: emptyDesk(width)}}}); !sameWorld(g, want) {
				t.Fatalf("of %q it is %v", parts, g)
			}
		}
		for _, parts := range [][]string{{text}, impl.Pieces(text, 1)[:min(len(text), mostParts)], impl.Pieces(text, 7), {"", text, "", ""}, append(slices.Clone(pieces), "", "")} {
			if strings.Join(parts, "") != text {
				continue
			}
			w.Copies[1].Parts, w.Copies[1].PartsAt = parts, 5
			g := kept.happens(t, w, actOf(impl.AcTake, 1), 0)
			if !sameCopy(g.Copies[1], impl.Copy{Desk: w.Copies[0].Desk, Applied: 5, Saved: text, SavedAt: 5}) {
				t.Fatalf("of %q it is %v", parts, g)
			}
		}
		for at := int64(0); at <= 5; at++ {
			for _, none := range [][]string{nil, {}} {
				w.Copies[1].Parts, w.Copies[1].PartsAt = none, at
				kept.unchanged(t, w, actOf(impl.AcTake, 1))
			}
		}
	}
}

// Applied, SavedAt and PartsAt of just as many as Log are right, and of one
// more are not; nor are ones below 0.
func TestWorldNumbers(t *testing.T) {
	next, kept := walkOf(259), pictureKept{}
	wild := []int64{-1, -2, 1 << 32, 1<<32 + 1, -1 << 32, impl.MaxId, least, least + 1, greatest, greatest - 1}
	for width := int64(1); width <= 4; width++ {
		for _, many := range []int64{0, 1, 2, 50, 99, 100} {
			w := emptyWorld(width, 1+int(next(5)))
			w.Log = script(next, width, many, 8)
			for at := range w.Copies {
				w.Copies[at].Saved, w.Copies[at].Parts = pictureIn(emptyDesk(width)), []string{"x"}
			}
			for _, n := range append([]int64{0, many / 2, many, many + 1, many + 2}, wild...) {
				for at := range w.Copies {
					for _, of := range []func(c *impl.Copy) *int64{
						func(c *impl.Copy) *int64 { return &c.Applied }, func(c *impl.Copy) *int64 { return &c.SavedAt }, func(c *impl.Copy) *int64 { return &c.PartsAt },
					} {
						g := copyWorld(w)
						*of(&g.Copies[at]) = n
						if n >= 0 && n <= many {
							kept.isWorld(t, g)
						} else {
							kept.notWorld(t, g)
						}
					}
				}
			}
		}
	}
}

// wrongCopies are such as no World of this Width has whose Log has as many.
func wrongCopies(width, many int64) []impl.Copy {
	right, other := emptyDesk(width), emptyDesk(width%4+1)
	text := pictureIn(right)
	next, sessions, gone := copyDesk(right), copyDesk(right), copyDesk(right)
	next.State.Next, sessions.Sessions, gone.State.Tower.Webs = 0, eachClient(9), nil
	list := []impl.Copy{
		{}, {Desk: other}, {Desk: next}, {Desk: sessions}, {Desk: gone}, {Desk: right, Applied: -1}, {Desk: right, Applied: many + 1},
		{Desk: right, Saved: text, SavedAt: -1}, {Desk: right, Saved: text, SavedAt: many + 1}, {Desk: right, SavedAt: 1}, {Desk: right, SavedAt: -1}, {Desk: right, SavedAt: many},
		{Desk: right, Parts: []string{"x"}, PartsAt: -1}, {Desk: right, Parts: []string{"x"}, PartsAt: many + 1}, {Desk: right, PartsAt: -1}, {Desk: right, PartsAt: many + 1},
		{Desk: right, Parts: make([]string, mostParts+1)}, {Desk: right, Parts: slices.Repeat([]string{"x"}, 2*mostParts)},
		{Desk: right, Parts: []string{strings.Repeat("x", mostPiece+1)}}, {Desk: right, Parts: []string{"x", strings.Repeat("\x00", mostPiece+1)}}, {Desk: right, Parts: append(make([]string, mostParts-1), strings.Repeat("\n", 2*mostPiece))},
	}
	for _, saved := range []string{"x", "\n", " ", "-", text[:len(text)-1], text[1:], text + "\n", " " + text, text + text, strings.Replace(text, "\n", "\r\n", 1), pictureIn(other), pictureIn(next), pictureIn(sessions)} {
		list = append(list, impl.Copy{Desk: right, Saved: saved}, impl.Copy{Desk: right, Saved: saved, SavedAt: many})
	}
	return list
}

// One Copy that is not right, wherever it stands.
func TestWorldWithWrongCopy(t *testing.T) {
	next, kept := walkOf(260), pictureKept{}
	for width := int64(1); width <= 4; width++ {
		for copies := 1; copies <= mostCopies; copies++ {
			many := 1 + next(9)
			w := emptyWorld(width, copies)
			w.Log = script(next, width, many, 3)
			kept.isWorld(t, w)
			for at := range copies {
				for _, c := range wrongCopies(width, many) {
					g := copyWorld(w)
					g.Copies[at] = c
					kept.notWorld(t, g)
				}
			}
		}
	}
	// 400 Parts of 1000 bytes are right.
	w := emptyWorld(3, 5)
	w.Copies[4].Parts = slices.Repeat([]string{strings.Repeat("x", mostPiece)}, mostParts)
	kept.isWorld(t, w)
	// What is none by one thing is none by two.
	w.Copies[0].Applied, w.Copies[4].Parts = 1, append(w.Copies[4].Parts, "")
	kept.notWorld(t, w)
}

func TestWorldWithWrongLog(t *testing.T) {
	next, kept := walkOf(261), pictureKept{}
	for width := int64(1); width <= 4; width++ {
		w := emptyWorld(width, 2)
		list := script(next, width, 20, 5)
		for i, c := range append(wrongCommands(3, 1), impl.Command{}, keepBy(-1, 1, 5), keepBy(8, 1, 5), goneBy(0, 0, 1), goneBy(0, impl.MaxId+1, 1)) {
			w.Log = []impl.Command{c}
			kept.notWorld(t, w)
			w.Log = slices.Clone(list)
			w.Log[[]int64{0, 19, next(20)}[i%3]] = c
			kept.notWorld(t, w)
		}
		// Commands that no Desk of this Width can do may be in it.
		w.Log = []impl.Command{keepBy(0, 1, make([]int64, width%4+1)...), goneBy(1, impl.MaxId, impl.MaxId), keepBy(7, 9, make([]int64, width)...)}
		kept.isWorld(t, w)
		g, codes := plays(t, w, slices.Repeat([]impl.Act{actOf(impl.AcStep, 1)}, 4))
		if !slices.Equal(codes, []int64{0, 0, 0, 1}) || g.Copies[1].Applied != 3 || len(g.Copies[1].Desk.State.Marks) != 0 {
			t.Errorf("it is %v, %v", g, codes)
		}
		isSame(t, g, true)
	}
}

func TestWorldWithWrongWidth(t *testing.T) {
	kept := pictureKept{}
	kept.notWorld(t, impl.World{})
	for copies := 0; copies <= mostCopies+2; copies++ {
		for width := int64(1); width <= 4; width++ {
			w := emptyWorld(width, copies)
			if copies >= 1 && copies <= mostCopies {
				kept.isWorld(t, w)
			} else {
				kept.notWorld(t, w)
			}
			for _, w.Width = range append([]int64{1, 2, 3, 4}, noWidths...) {
				if w.Width != width {
					kept.notWorld(t, w)
				}
			}
		}
		for _, width := range noWidths {
			w := emptyWorld(1, copies)
			for at := range w.Copies {
				w.Copies[at].Desk.State.Width = width
			}
			w.Width = width
			kept.notWorld(t, w)
		}
	}
	kept.notWorld(t, emptyWorld(2, 500))
}

// noPlaces are numbers at which there is no Copy of so many.
func noCopiesAt(many int64) []int64 {
	return []int64{-1, -2, -many, many, many + 1, 1 << 32, 1<<32 + 1, -1 << 32, least, least + 1, greatest, greatest - 1}
}

// roomyTo is a World in which each Act can be done to each Copy: more is asked
// than all have applied, and there is something to fetch from each, and Parts.
func roomyTo(width int64, copies int) impl.World {
	w := emptyWorld(width, copies)
	w.Log = []impl.Command{keepBy(0, 1, make([]int64, width)...), keepBy(0, 2, make([]int64, width)...), goneBy(1, 1, 1)}
	for at := range w.Copies {
		w.Copies[at].Saved, w.Copies[at].SavedAt = pictureIn(emptyDesk(width)), 1
		w.Copies[at].Parts, w.Copies[at].PartsAt = []string{w.Copies[at].Saved}, 2
	}
	return w
}

func TestActsOfNoKindOrCopy(t *testing.T) {
	kept := pictureKept{}
	for width := int64(1); width <= 4; width++ {
		for copies := 1; copies <= mostCopies; copies++ {
			w, many := roomyTo(width, copies), int64(copies)
			for _, kind := range noActKinds {
				kept.unchanged(t, w, impl.Act{Kind: kind})
				kept.unchanged(t, w, impl.Act{Kind: kind, A: many - 1, B: 0, Command: keepBy(0, 1, 5)})
			}
			for kind := int64(impl.AcStep); kind <= impl.AcTake; kind++ {
				for _, a := range noCopiesAt(many) {
					kept.unchanged(t, w, actOf(kind, a))
					kept.unchanged(t, w, impl.Act{Kind: kind, A: a, B: many - 1, Command: keepBy(0, 1, 5)})
				}
			}
			for a := range many {
				for _, b := range append(noCopiesAt(many), a) {
					kept.unchanged(t, w, fetchOf(a, b))
				}
				for b := range many {
					if a != b {
						kept.happens(t, w, fetchOf(a, b), 0)
					}
				}
				for _, kind := range []int64{impl.AcStep, impl.AcSave, impl.AcCrash, impl.AcTake} {
					kept.happens(t, w, actOf(kind, a), 0)
				}
			}
			for _, a := range noCopiesAt(many) {
				kept.unchanged(t, w, fetchOf(a, a))
			}
		}
	}
}

func TestActsWithNothingToDo(t *testing.T) {
	kept := pictureKept{}
	for width := int64(1); width <= 4; width++ {
		for copies := 1; copies <= mostCopies; copies++ {
			w := emptyWorld(width, copies)
			for a := range int64(copies) {
				kept.unchanged(t, w, actOf(impl.AcStep, a))
				kept.unchanged(t, w, actOf(impl.AcTake, a))
				kept.unchanged(t, w, fetchOf(a, (a+1)%int64(copies)))
			}
			for _, c := range append(wrongCommands(3, 1), impl.Command{}, keepBy(-1, 1, 5), keepBy(8, 1, 5), goneBy(0, 0, 1), goneBy(0, impl.MaxId+1, 1)) {
				kept.unchanged(t, w, askOf(c))
			}
			w = kept.happens(t, w, askOf(keepBy(0, 1, 5)), 0)
			for a := range int64(copies) {
				w = kept.happens(t, w, actOf(impl.AcStep, a), 0)
				kept.unchanged(t, w, actOf(impl.AcStep, a))
			}
		}
	}
}

// What a Kind does not speak of is not asked.
func TestActsWithMoreThanIsAsked(t *testing.T) {
	w := roomyTo(2, 3)
	for kind := int64(impl.AcAsk); kind <= impl.AcTake; kind++ {
		a := impl.Act{Kind: kind, A: 1, B: 2, Command: keepBy(4, 1, 5)}
		want, code := impl.Happen(w, a)
		if code != 0 {
			t.Fatalf("%d is told %d", kind, code)
		}
		for _, n := range append(noCopiesAt(3), 0, 1, 2) {
			other := a
			if kind != impl.AcFetch {
				other.B = n
			}
			if kind == impl.AcAsk {
				other.A = n
			} else {
				other.Command = impl.Command{Client: n, At: []int64{n}}
			}
			if g, told := impl.Happen(w, other); told != 0 || !sameWorld(g, want) {
				t.Fatalf("Happen(%v, %v) = %v, %d, not %v", w, other, g, told, want)
			}
		}
	}
}

// desksOfWidth are right Desks of each Width, grown and built.
func desksOfWidth() [5][]impl.Desk {
	desks := [5][]impl.Desk{}
	for i, d := range slices.Concat(manyDesks(), fewDesks(), smallDesks()) {
		if width := d.State.Width; i%3 == 0 || len(desks[width]) < 10 {
			desks[width] = append(desks[width], d)
		}
	}
	return desks
}

// someParts are pieces of a text by any size, most often by 40: of all of it
// or some, now and then not in order, or with other texts between.
func someParts(next func(int64) int64, text string) []string {
	size := []int64{fetchedBy, fetchedBy, fetchedBy, 1 + next(mostPiece)}[next(4)]
	parts := impl.Pieces(text, size)
	switch next(8) {
	case 0:
		return nil
	case 1, 2:
		parts = parts[:next(int64(len(parts))+1)]
	case 3:
		parts = append(parts, []string{"", "x", "\n", strings.Repeat("9", mostPiece)}[next(4)])
	case 4:
		at := next(int64(len(parts)))
		parts[at] = parts[next(int64(len(parts)))]
	}
	return parts[:min(len(parts), mostParts)]
}

// builtWorld is a right World such as no script leaves behind: each Copy has
// any Desk, has saved any, and has Parts of any.
func builtWorld(next func(int64) int64, desks [5][]impl.Desk) impl.World {
	width := 1 + next(4)
	anyOf := func(width int64) impl.Desk { return copyDesk(desks[width][next(int64(len(desks[width])))]) }
	many := []int64{0, 1, 2, 3, 20, 99, 100}[next(7)]
	w := impl.World{Width: width, Log: script(next, width, many, 1+next(8))}
	for range 1 + next(mostCopies) {
		c := impl.Copy{Desk: anyOf(width), Applied: next(many + 1), PartsAt: next(many + 1)}
		if next(4) > 0 {
			c.Saved, c.SavedAt = pictureIn(anyOf(width)), next(many+1)
		}
		if next(2) == 0 && len(w.Copies) > 0 {
			c.PartsAt = w.Copies[0].SavedAt
		}
		from := anyOf(width)
		if next(5) == 0 {
			from = anyOf(1 + next(4))
		}
		c.Parts = someParts(next, pictureIn(from))
		w.Copies = append(w.Copies, c)
	}
	return w
}

// Promise 19: any right World stays right, whatever happens, and each Act does
// what the document's words have.
func TestAnyWorldStaysRight(t *testing.T) {
	next, kept, desks, codes := walkOf(262), pictureKept{}, desksOfWidth(), map[[2]int64]int{}
	same := map[bool]int{}
	for range 300 {
		w := builtWorld(next, desks)
		kept.isWorld(t, w)
		is := sameIn(w)
		isSame(t, w, is)
		same[is]++
		p := player{next: next, queue: script(next, w.Width, 10, 8)}
		for range 12 {
			a := p.draws(w)
			if next(3) == 0 {
				a = impl.Act{Kind: 1 + next(6), A: next(int64(len(w.Copies))), B: next(int64(len(w.Copies))), Command: goneBy(next(8), 1+next(3), 1+next(9))}
			}
			_, code := kept.happenIn(w, a)
			w = kept.happens(t, w, a, code)
			codes[[2]int64{min(max(a.Kind, 0), 7), code}]++
		}
		isSame(t, w, sameIn(w))
	}
	for kind := int64(1); kind <= 6; kind++ {
		if codes[[2]int64{kind, 0}] < 10 {
			t.Errorf("%d was told %v", kind, codes)
		}
	}
	if codes[[2]int64{6, 3}] < 20 || same[false] < 200 {
		t.Errorf("they were told %v, %v are Same", codes, same)
	}
}

// disturbedWorld is another one in one thing, which may be a right one too.
func disturbedWorld(next func(int64) int64, w impl.World, desks [5][]impl.Desk) impl.World {
	g := copyWorld(w)
	many := int64(len(g.Log))
	c := &g.Copies[next(int64(len(g.Copies)))]
	number := []int64{-1, 0, many, many + 1, next(many + 1), greatest, least}[next(7)]
	width := 1 + next(4)
	other := desks[width][next(int64(len(desks[width])))]
	switch next(12) {
	case 0:
		g.Width = next(6)
	case 1:
		c.Applied = number
	case 2:
		c.SavedAt = number
	case 3:
		c.PartsAt = number
	case 4:
		c.Saved, c.SavedAt = "", []int64{0, 1, c.SavedAt}[next(3)]
	case 5:
		c.Saved = pictureIn(other)
	case 6:
		c.Saved = c.Saved[:next(int64(len(c.Saved)+1))]
	case 7:
		c.Desk = copyDesk(other)
	case 8:
		c.Desk.State = disturbedState(next, c.Desk.State)
	case 9:
		c.Parts = slices.Repeat([]string{strings.Repeat("x", int(next(4)*500)+int(next(2)))}, int([]int64{mostParts, mostParts + 1, 1, 0, next(500)}[next(5)]))
	case 10:
		g.Copies = slices.Repeat(g.Copies, int(next(3)))
	case 11:
		g.Log = append(g.Log, script(next, w.Width, 1+next(3), 8)...)
		if next(3) == 0 {
			wrong := wrongCommands(1, 1)
			g.Log[next(int64(len(g.Log)))] = wrong[next(int64(len(wrong)))]
		}
	}
	return g
}

func TestWorldOkByItsWords(t *testing.T) {
	next, kept, desks, many := walkOf(263), pictureKept{}, desksOfWidth(), map[bool]int{}
	for range 300 {
		w := builtWorld(next, desks)
		for range 8 {
			g := disturbedWorld(next, w, desks)
			right := kept.worldIn(g)
			many[right]++
			if right {
				kept.isWorld(t, g)
			} else {
				kept.notWorld(t, g)
			}
		}
	}
	if min(many[true], many[false]) < 500 {
		t.Errorf("they are %v", many)
	}
}

// roomyWorld is the World with spare room behind all of its lists, and a look
// at the whole of that memory.
func roomyWorld(w impl.World) (impl.World, func() string) {
	log, lookLog := roomyCommands(w.Log)
	whole := append(slices.Clone(w.Copies), impl.Copy{Applied: 91, Saved: "behind", Parts: []string{"behind"}}, impl.Copy{SavedAt: 92})
	looks := []func() string{}
	for i, c := range whole {
		desk, look := roomyDesk(c.Desk)
		parts := append(slices.Clone(c.Parts), "behind", "all")
		whole[i].Desk, whole[i].Parts = desk, parts[:len(c.Parts)]
		looks = append(looks, func() string { return fmt.Sprint(look(), parts) })
	}
	own := impl.World{Width: w.Width, Log: log, Copies: whole[:len(w.Copies)]}
	return own, func() string {
		text := fmt.Sprint(lookLog(), whole, own)
		for _, look := range looks {
			text += look()
		}
		return text
	}
}

// roomyActs are the Acts with spare room behind the list and behind each At of
// theirs, and a look at the whole of that memory.
func roomyActs(list []impl.Act) ([]impl.Act, func() string) {
	whole := append(slices.Clone(list), actOf(93, 94), fetchOf(95, 96))
	ats := [][]int64{}
	for i, a := range whole {
		at, room := roomy(a.Command.At)
		whole[i].Command.At, ats = at, append(ats, room)
	}
	return whole[:len(list)], func() string { return fmt.Sprint(whole, ats) }
}

// spoilWorld writes over all lists of an answer and the room behind them.
func spoilWorld(w impl.World) {
	spoilCommands(w.Log[:cap(w.Log)])
	copies := w.Copies[:cap(w.Copies)]
	for i, c := range copies {
		spoilDesk(c.Desk)
		parts := c.Parts[:cap(c.Parts)]
		for at := range parts {
			parts[at] = "spoilt"
		}
		copies[i] = impl.Copy{Applied: -77, Saved: "spoilt", SavedAt: -78, PartsAt: -79}
	}
}

func spoilActs(list []impl.Act) {
	for i, a := range list {
		spoilNumbers(a.Command.At)
		list[i] = actOf(-77, -78)
	}
}

// span is memory from one address up to another one.
type span struct{ from, to uintptr }

// spansOf are those of all lists in it, each with the room behind it, the
// first ones first.
func spansOf(v any) []span {
	list := []span{}
	var look func(v reflect.Value)
	look = func(v reflect.Value) {
		switch v.Kind() {
		case reflect.Interface:
			look(v.Elem())
		case reflect.Struct:
			for i := range v.NumField() {
				look(v.Field(i))
			}
		case reflect.Slice:
			if long := uintptr(v.Cap()) * v.Type().Elem().Size(); long > 0 {
				list = append(list, span{v.Pointer(), v.Pointer() + long})
			}
			for i := range v.Len() {
				look(v.Index(i))
			}
		}
	}
	look(reflect.ValueOf(v))
	slices.SortFunc(list, func(a, b span) int { return cmp.Compare(a.from, b.from) })
	return list
}

// sharesItself asks whether two lists in it are of one memory.
func sharesItself(v any) bool {
	list, end := spansOf(v), uintptr(0)
	for _, s := range list {
		if s.from < end {
			return true
		}
		end = max(end, s.to)
	}
	return false
}

// shares asks whether a list in a and one in b are of one memory. In a no two
// are.
func shares(a, b any) bool {
	own := spansOf(a)
	return slices.ContainsFunc(spansOf(b), func(s span) bool {
		at, _ := slices.BinarySearchFunc(own, s.from, func(o span, from uintptr) int { return cmp.Compare(o.to, from+1) })
		return at < len(own) && own[at].from < s.to
	})
}

// isNew asks that no two lists of an answer share memory, and that it shares
// none with what was given.
func isNew(t *testing.T, answer any, given ...any) {
	t.Helper()
	if sharesItself(answer) {
		t.Fatalf("two lists of %v share memory", answer)
	}
	for _, one := range given {
		if shares(answer, one) {
			t.Fatalf("%v shares memory with %v", answer, one)
		}
	}
}

// What is shared is found.
func TestSpans(t *testing.T) {
	list := []int64{1, 2, 3, 4}
	for _, c := range []struct {
		a, b []int64
		is   bool
	}{
		{list[:2:2], list[2:], false}, {list[:2], list[2:], true}, {list[:2:2], list[1:], true}, {list[:0:0], list, false}, {list[:0], list[3:], true},
		{list[2:], list[:2:2], false}, {list[3:], list[:3], true}, {list, list, true}, {list[1:2:2], list, true}, {list, list[1:2:2], true}, {slices.Clone(list), list, false}, {nil, nil, false},
	} {
		if is := sharesItself([]impl.Mark{{At: c.a}, {At: c.b}}); is != c.is {
			t.Errorf("within %v and %v it is %t", c.a, c.b, is)
		}
		if is := shares(impl.Mark{At: c.a}, [][]int64{{}, c.b}); is != c.is {
			t.Errorf("of %v and %v it is %t", c.a, c.b, is)
		}
	}
}

// someWorlds are right Worlds of all kinds: new, played out and built.
func someWorlds() []impl.World {
	next, desks, list := walkOf(264), desksOfWidth(), []impl.World{roomyTo(3, 5), roomyTo(1, 1)}
	for i := range 20 {
		_, w := playedOut(uint64(265000+i), int64(i%4)+1, i%5+1, 40, 10*i)
		list = append(list, w, emptyWorld(int64(i%4)+1, i/4+1))
	}
	for range 20 {
		list = append(list, builtWorld(next, desks))
	}
	return list
}

// someActs are of each Kind: for this World some that can be done, and some
// that can't.
func someActs(next func(int64) int64, w impl.World) []impl.Act {
	p, many := player{next: next, queue: script(next, w.Width, 10, 8)}, int64(len(w.Copies))
	list := []impl.Act{{}, askOf(impl.Command{}), askOf(goneBy(0, 1, 1)), askOf(keepBy(7, 1, 1, 2, 3, 4)), fetchOf(0, 0), actOf(impl.AcStep, -1), actOf(impl.AcSave, many), actOf(7, 0)}
	for a := range many {
		list = append(list, fetchOf(a, (a+1)%many))
		for kind := int64(impl.AcStep); kind <= impl.AcTake; kind++ {
			list = append(list, actOf(kind, a))
		}
	}
	for range 5 {
		list = append(list, p.draws(w), p.stray(w))
	}
	return list
}

// worldStays asks all functions, writes over what they answer, and looks
// whether an argument, or the room behind it, has changed.
func worldStays(t *testing.T, w impl.World, list []impl.Act) {
	t.Helper()
	own, look := roomyWorld(w)
	acts, lookActs := roomyActs(list)
	kept, keptActs := look(), lookActs()
	impl.WorldOk(own)
	impl.Same(own)
	for _, a := range acts {
		g, _ := impl.Happen(own, a)
		spoilWorld(g)
	}
	g, codes := impl.Play(own, acts)
	spoilWorld(g)
	spoilNumbers(codes)
	if look() != kept || lookActs() != keptActs {
		t.Fatalf("%v, %v became %v, %v", w, list, own, acts)
	}
}

func TestWorldArgumentsStay(t *testing.T) {
	next := walkOf(266)
	for i, w := range someWorlds() {
		worldStays(t, w, someActs(next, w))
		wrong := copyWorld(w)
		c := &wrong.Copies[i%len(w.Copies)]
		switch i % 6 {
		case 0:
			wrong.Width = w.Width%4 + 1
		case 1:
			c.Applied = -1
		case 2:
			c.Desk.State.Next = 0
		case 3:
			wrong.Log = append(wrong.Log, impl.Command{Client: 1, Seq: 1, Kind: impl.CmKeep, At: []int64{1001}})
		case 4:
			c.Saved = "x"
		case 5:
			c.Parts = append(c.Parts, strings.Repeat("x", mostPiece+1))
		}
		worldStays(t, wrong, someActs(next, w)[:12])
	}
	worldStays(t, impl.World{}, []impl.Act{{}, actOf(impl.AcStep, 0)})
	worldStays(t, emptyWorld(1, 2), make([]impl.Act, mostActs+1))
}

// An answer shares memory with nothing that was given, nor with itself, be
// something done or nothing.
func TestWorldAnswersAreNew(t *testing.T) {
	next, kept, told := walkOf(267), pictureKept{}, map[int64]int{}
	for _, w := range someWorlds() {
		list := someActs(next, w)
		for _, a := range list {
			own, _ := roomyWorld(w)
			acts, _ := roomyActs([]impl.Act{a})
			g, code := impl.Happen(own, acts[0])
			isNew(t, g, own, acts)
			want, _ := kept.happenIn(w, a)
			again, _ := impl.Happen(own, acts[0])
			isNew(t, again, g)
			spoilWorld(again)
			spoilWorld(own)
			spoilActs(acts)
			if !sameWorld(g, want) {
				t.Fatalf("Happen(%v, %v) became %v, not %v", w, a, g, want)
			}
			told[code]++
		}
		for _, many := range []int{0, 1, len(list)} {
			own, _ := roomyWorld(w)
			acts, _ := roomyActs(list[:many])
			g, codes := impl.Play(own, acts)
			isNew(t, []any{g, codes}, own, acts)
			again, _ := impl.Play(own, acts)
			want := copyWorld(again)
			isNew(t, again, g, codes)
			spoilWorld(again)
			spoilWorld(own)
			spoilActs(acts)
			spoilNumbers(codes)
			if !sameWorld(g, want) {
				t.Fatalf("Play(%v, %v) became %v, not %v", w, list, g, want)
			}
		}
	}
	if min(told[0], told[1], told[3]) < 50 {
		t.Errorf("they are told %v", told)
	}
	for width := int64(1); width <= 4; width++ {
		for copies := int64(1); copies <= mostCopies; copies++ {
			w, _ := impl.NewWorld(width, copies)
			other, _ := impl.NewWorld(width, copies)
			isNew(t, w, other)
			spoilWorld(other)
			if !sameWorld(w, emptyWorld(width, int(copies))) {
				t.Fatalf("NewWorld(%d, %d) became %v", width, copies, w)
			}
		}
	}
}

// All Copies of the World are one memory, and so are the places of its
// Commands and of the Act: what is answered has each of them for itself.
func TestWorldOfSharedMemory(t *testing.T) {
	kept := pictureKept{}
	for width := int64(1); width <= 4; width++ {
		at := make([]int64, width)
		log := []impl.Command{keepBy(0, 1, at...), keepBy(1, 1, at...), keepBy(2, 1, at...)}
		for i := range log {
			log[i].At = at
		}
		d, _ := impl.Folded(width, log[:2])
		parts := piecesIn(impl.Picture(d))
		c := impl.Copy{Desk: d, Applied: 1, Saved: impl.Picture(d), SavedAt: 2, Parts: parts[:len(parts)-1], PartsAt: 2}
		w := impl.World{Width: width, Log: log, Copies: []impl.Copy{c, c, c}}
		w.Copies[2].Parts = parts
		was := copyWorld(w)
		for _, a := range []impl.Act{
			{Kind: impl.AcAsk, Command: impl.Command{Client: 3, Seq: 1, Kind: impl.CmKeep, At: at}}, actOf(impl.AcStep, 0), actOf(impl.AcStep, 2), actOf(impl.AcSave, 1), actOf(impl.AcCrash, 1),
			fetchOf(0, 1), fetchOf(1, 0), fetchOf(2, 0), actOf(impl.AcTake, 0), actOf(impl.AcTake, 2), {}, actOf(impl.AcStep, 3),
		} {
			g, code := impl.Happen(w, a)
			isNew(t, g, w, a)
			want, told := kept.happenIn(was, a)
			if code != told || !sameWorld(g, want) || !sameWorld(w, was) {
				t.Fatalf("Happen(%v, %v) = %v, %d", was, a, g, code)
			}
			spoilWorld(g)
			if !sameWorld(w, was) {
				t.Fatalf("%v became %v", was, w)
			}
		}
		g, _ := impl.Play(w, nil)
		isNew(t, g, w)
	}
}

// Many calls at once do not meet: nothing is kept between them.
func TestWorldsAtOnce(t *testing.T) {
	p, list := player{next: walkOf(268), queue: script(walkOf(269), 2, 60, 8)}, []impl.Act{}
	kept, w := pictureKept{}, emptyWorld(2, 3)
	for range 150 {
		a := p.tries(kept, w)
		list = append(list, a)
		w, _ = kept.happenIn(w, a)
	}
	start, same := emptyWorld(2, 3), make(chan bool)
	for range 8 {
		go func() {
			g, codes := impl.Play(start, list)
			_, none := impl.Play(impl.World{}, list)
			same <- sameWorld(g, w) && len(codes) == len(list) && len(none) == 0 && impl.Same(g) && impl.WorldOk(start)
		}()
	}
	for range 8 {
		if !<-same {
			t.Error("one is another")
		}
	}
}
