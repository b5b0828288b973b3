package tests

import (
	"fmt"
	"go/ast"
	"go/parser"
	"go/token"
	"maps"
	"path/filepath"
	"reflect"
	"slices"
	"strings"
	"testing"

	"loop.example/g00273/impl"
)

// everyFunction are all that the package exports.
func everyFunction() map[string]any {
	return map[string]any{
		"PointOk": impl.PointOk, "Far": impl.Far, "Dot": impl.Dot, "Steps": impl.Steps, "Reach": impl.Reach, "Moved": impl.Moved,
		"MarksOk": impl.MarksOk, "Between": impl.Between, "Diameter": impl.Diameter, "Middle": impl.Middle,
		"Nearest": impl.Nearest, "Within": impl.Within, "Merged": impl.Merged, "HitsOk": impl.HitsOk,
		"BoxOk": impl.BoxOk, "Around": impl.Around, "Inside": impl.Inside, "ToBox": impl.ToBox, "Corner": impl.Corner, "Shared": impl.Shared,
		"Halved": impl.Halved, "KnotsOk": impl.KnotsOk, "Found": impl.Found, "Looked": impl.Looked, "Tall": impl.Tall,
		"Balls": impl.Balls, "BallsOk": impl.BallsOk, "Closest": impl.Closest, "Spared": impl.Spared,
		"Cell": impl.Cell, "InCell": impl.InCell, "Cells": impl.Cells, "Near": impl.Near, "Crowd": impl.Crowd,
		"Weave": impl.Weave, "Unweave": impl.Unweave, "Ranked": impl.Ranked, "Below": impl.Below, "Prefix": impl.Prefix,
		"Weight": impl.Weight, "Apart": impl.Apart, "Parts": impl.Parts, "Alike": impl.Alike, "Close": impl.Close,
		"Given": impl.Given, "Cost": impl.Cost, "Shifted": impl.Shifted, "Still": impl.Still,
		"Chosen": impl.Chosen, "Radius": impl.Radius, "BestRadius": impl.BestRadius,
		"Threads": impl.Threads, "Tied": impl.Tied, "Total": impl.Total, "Groups": impl.Groups, "Gap": impl.Gap,
		"LevelsOk": impl.LevelsOk, "Coded": impl.Coded, "Decoded": impl.Decoded, "Off": impl.Off, "Sum": impl.Sum,
		"WebOk": impl.WebOk, "Linked": impl.Linked, "Walk": impl.Walk, "Beam": impl.Beam, "Islands": impl.Islands,
		"Rolled": impl.Rolled, "Level": impl.Level, "TowerOk": impl.TowerOk, "NewTower": impl.NewTower, "Raised": impl.Raised, "Asked": impl.Asked,
		"StateOk": impl.StateOk, "NewState": impl.NewState, "Kept": impl.Kept, "Gone": impl.Gone, "Exact": impl.Exact, "Felt": impl.Felt,
		"CommandOk": impl.CommandOk, "DeskOk": impl.DeskOk, "NewDesk": impl.NewDesk, "Applied": impl.Applied, "Folded": impl.Folded,
		"ShowCommand": impl.ShowCommand, "ReadCommand": impl.ReadCommand, "Picture": impl.Picture, "Check": impl.Check, "Pieces": impl.Pieces, "Drawn": impl.Drawn,
		"WorldOk": impl.WorldOk, "NewWorld": impl.NewWorld, "Happen": impl.Happen, "Play": impl.Play, "Same": impl.Same,
		"Bench": impl.Bench,
	}
}

// stock is what may be given, by its type.
type stock map[reflect.Type][]reflect.Value

func (s stock) add(values ...any) {
	for _, one := range values {
		v := reflect.ValueOf(one)
		s[v.Type()] = append(s[v.Type()], v)
	}
}

func (s stock) one(next func(int64) int64, of reflect.Type) reflect.Value {
	return s[of][next(int64(len(s[of])))]
}

// rightStock is right, all of it about the same marks of one width, most of
// what asks for them suiting the others.
func rightStock(next func(int64) int64, width int64, count int, wide int64) stock {
	s, list, ahead := stock{}, []impl.Mark{}, []impl.Mark{}
	at := func() []int64 { return pointOf(next, int(width), wide) }
	for id := range int64(count) {
		list = append(list, impl.Mark{Id: id + 1, At: at()})
		ahead = append(ahead, impl.Mark{Id: id + 1, At: pointOf(func(most int64) int64 { return most/2 + next(most/2+1) }, int(width), wide)})
	}
	first, some := list[:(count+1)/2], list[:min(count, 8)]
	s.add(list, ahead, first, some, impl.Mark{Id: int64(count) + 1, At: at()}, impl.Mark{Id: impl.MaxId, At: at()})
	s.add(int64(0), int64(1), int64(2), int64(3), int64(4), int64(count), int64(8), int64(25), wide, int64(60), int64(388), int64(65535))
	s.add(at(), at(), make([]int64, width), ahead[0].At, impl.Cell(list[0].At, 4), idsOfMarks(first), impl.Chosen(list, 1, impl.BySteps), []int64{5, 65535, 4096, 5})
	centers, levels := [][]int64{}, [][]int64{}
	for range width {
		levels = append(levels, []int64{-wide, -1, 0, 2, wide + 2}[next(3):3+next(3)])
	}
	for range 1 + next(8) {
		centers = append(centers, at())
	}
	s.add(centers, levels, impl.Groups(list, impl.BySteps, 1+int64(count)/2), impl.Groups(some, impl.ByFar, 1), impl.Coded(at(), levels))
	s.add(impl.Nearest(list, at(), 5), impl.Nearest(list, at(), 60), impl.Within(list, at(), wide*wide))
	s.add(impl.Around(list), impl.Around(first), impl.Box{Low: at(), High: slices.Repeat([]int64{wide}, int(width))})
	s.add(impl.Halved(list), impl.Halved(first), impl.Balls(list), impl.Balls(first), impl.Grid{Side: 4, Marks: list}, impl.Grid{Side: wide + 1, Marks: first})
	for kind := int64(impl.ByFar); kind <= impl.ByReach; kind++ {
		s.add(impl.Threads(list, kind), impl.Threads(some, kind))
	}
	s.addStates(next, width, list, wide)
	s.addWorlds(next, width, int64(count), wide)
	return s
}

func (s stock) addStates(next func(int64) int64, width int64, list []impl.Mark, wide int64) {
	web, tower, state := impl.Web{}, impl.NewTower(), emptyState(width)
	for _, m := range list {
		web, _ = impl.Linked(web, m, 1+next(3))
		tower, _ = impl.Raised(tower, m)
		state, _ = impl.Kept(state, m.At)
	}
	gone, _ := impl.Gone(state, 1)
	s.add(web, tower.Webs[0], tower.Webs[1], impl.Web{}, tower, impl.NewTower(), state, gone, stateGrown(next, width, len(list)/2, wide))
}

func (s stock) addWorlds(next func(int64) int64, width, count, wide int64) {
	list := script(next, width, count, 4)
	desk, _ := impl.Folded(width, list)
	half, _ := impl.Folded(width, list[:count/2])
	s.add(list, list[:count/2], list[0], keepBy(1, 1, make([]int64, width)...), goneBy(2, 1, 1), desk, half, emptyDesk(width))
	picture := impl.Picture(half)
	s.add(picture, impl.Picture(emptyDesk(width)), impl.ShowCommand(list[0]), impl.ShowCommand(goneBy(2, 1, 1)), "ask 0 1 keep 0 0\nstep 0\nnear 0 0 0 1\nsame", strings.Join(impl.Pieces(picture, 9), ""))
	w, p := emptyWorld(width, int(1+next(3))), player{next: next, queue: list}
	acts := []impl.Act{}
	for range 30 {
		acts = append(acts, p.draws(w))
		w, _ = impl.Happen(w, acts[len(acts)-1])
	}
	s.add(w, emptyWorld(width, 2), acts[:5], acts[20:], askOf(list[0]), fetchOf(0, 1), fetchOf(1, 0))
	for kind := int64(impl.AcStep); kind <= impl.AcTake; kind++ {
		s.add(actOf(kind, 0))
	}
}

// wrongStock is what is most often wrong: nothing, too great, or out of range.
func wrongStock() stock {
	s := stock{}
	s.add(least, least+1, int64(-1000003), int64(-61), int64(-1), int64(0), int64(61), int64(1001), int64(impl.MaxId+1), int64(1000003), int64(1<<32), int64(1<<40), int64(1<<62), greatest-1, greatest)
	s.add("", "\n", "-", "x", "\xff\x00", " ", strings.Repeat("9", mostPieced+1), strings.Repeat("1 1 1 1\n", 5000), strings.Repeat("same\n", 300), "2 1 1 1\n", "1 9223372036854775807 keep 1")
	s.add([]int64(nil), []int64{}, []int64{least, greatest}, []int64{1001}, slices.Repeat([]int64{1}, 5), make([]int64, 3000), []int64{3, 2, 1}, []int64{greatest, greatest, greatest, greatest}, []int64{least})
	s.add([][]int64(nil), [][]int64{}, [][]int64{nil}, [][]int64{{}}, [][]int64{{least}, {greatest}}, make([][]int64, 3000), slices.Repeat([][]int64{{1}}, 9), [][]int64{make([]int64, 3000)}, [][]int64{{1}, {1}}, [][]int64{{1}, nil, {2}})
	none, far := impl.Mark{}, impl.Mark{Id: greatest, At: []int64{least, greatest}}
	marks := func(count int) []impl.Mark { return axisMarks(1, 0, make([]int64, count)...) }
	s.add(none, far, impl.Mark{Id: 1}, impl.Mark{At: []int64{1}}, impl.Mark{Id: -1, At: []int64{1}}, impl.Mark{Id: impl.MaxId + 1, At: make([]int64, 4)})
	s.add([]impl.Mark(nil), []impl.Mark{}, []impl.Mark{none}, []impl.Mark{far, far}, marks(61), marks(3000), make([]impl.Mark, 200), []impl.Mark{{Id: 2, At: []int64{1}}, {Id: 1, At: []int64{1}}})
	s.add([]impl.Hit(nil), []impl.Hit{{}}, []impl.Hit{{Id: least, Far: greatest}}, []impl.Hit{{Id: greatest, Far: least}, {Id: 1, Far: -1}}, make([]impl.Hit, 3000))
	s.add(impl.Box{}, impl.Box{Low: []int64{1}}, impl.Box{Low: []int64{5}, High: []int64{1}}, impl.Box{Low: []int64{least}, High: []int64{greatest}}, impl.Box{Low: make([]int64, 3000), High: make([]int64, 3000)})
	knots, balls := make([]impl.Knot, 3000), make([]impl.Ball, 3000)
	for i := range knots {
		knots[i], balls[i] = impl.Knot{Mark: marks(1)[0], Less: int64(i) + 1, More: -1}, impl.Ball{Mark: marks(1)[0], Near: int64(i) + 1, Apart: -1}
	}
	s.add([]impl.Knot(nil), []impl.Knot{{}}, knots, knots[:2], []impl.Knot{{Mark: marks(1)[0], Less: -1, More: -1}, {Mark: marks(2)[1], Less: 0, More: 1}}, []impl.Knot{{Mark: far, Axis: greatest, Less: greatest, More: least}})
	s.add([]impl.Ball(nil), []impl.Ball{{}}, balls, balls[:2], []impl.Ball{{Mark: marks(1)[0], Near: -1, Apart: -1}, {Mark: marks(2)[1], Near: 0, Apart: 1}}, []impl.Ball{{Mark: far, Radius: greatest, Near: greatest, Apart: least}})
	s.add(impl.Grid{}, impl.Grid{Side: least, Marks: marks(2)}, impl.Grid{Side: greatest, Marks: marks(61)}, impl.Grid{Side: 1, Marks: []impl.Mark{far}})
	s.add([]impl.Thread(nil), []impl.Thread{{}}, []impl.Thread{{A: least, B: greatest, Long: greatest}, {A: 1, B: 2, Long: greatest}}, slices.Repeat([]impl.Thread{{A: 1, B: 2, Long: 1 << 40}}, 5000))
	web := impl.Web{Marks: marks(2), Links: [][]int64{{2}}}
	s.add(impl.Web{}, web, impl.Web{Links: make([][]int64, 3000)}, impl.Web{Marks: marks(3000), Links: make([][]int64, 3000)}, impl.Web{Marks: []impl.Mark{none}, Links: [][]int64{{least, greatest}}})
	towers := []impl.Tower{{}, {Dice: greatest}, {Webs: []impl.Web{web}}, {Webs: make([]impl.Web, 5)}, {Dice: least, Webs: make([]impl.Web, 4)}, {Webs: make([]impl.Web, 3000)}}
	for _, tower := range towers {
		state := impl.State{Width: 1, Marks: marks(2), Tower: tower, Next: 5}
		desk := impl.Desk{State: state, Sessions: make([]impl.Session, 9)}
		s.add(tower, state, desk, impl.World{Width: 1, Copies: []impl.Copy{{Desk: desk}}})
	}
	s.add(impl.State{}, impl.State{Width: greatest, Next: least}, impl.Desk{}, impl.Desk{Sessions: make([]impl.Session, 3000)})
	command := impl.Command{Client: greatest, Seq: least, Kind: greatest, Id: least, At: make([]int64, 3000)}
	s.add(impl.Command{}, command, impl.Command{Kind: impl.CmKeep}, keepBy(-1, -1, 1), goneBy(8, 0, greatest), []impl.Command(nil), []impl.Command{{}}, []impl.Command{command}, make([]impl.Command, 3000), slices.Repeat([]impl.Command{goneBy(0, 1, 1)}, 101))
	s.add(impl.World{}, impl.World{Width: 2, Copies: make([]impl.Copy, 2)}, impl.World{Width: 2, Copies: make([]impl.Copy, 3000)}, emptyWorld(2, 6), impl.World{Width: 2, Log: make([]impl.Command, 3000), Copies: emptyWorld(2, 1).Copies}, impl.World{Width: greatest})
	s.add(impl.Act{}, fetchOf(least, greatest), actOf(greatest, least), askOf(command), askOf(impl.Command{}), actOf(impl.AcStep, greatest), []impl.Act(nil), []impl.Act{{}}, make([]impl.Act, mostActs+1), []impl.Act{askOf(command), actOf(impl.AcTake, -1)})
	return s
}

// strange is a value that is none of those that are given.
func strange(of reflect.Type) reflect.Value {
	v := reflect.New(of).Elem()
	switch of.Kind() {
	case reflect.Int64:
		v.SetInt(-7777)
	case reflect.String:
		v.SetString("behind")
	case reflect.Slice:
		v.Set(reflect.Append(v, strange(of.Elem())))
	case reflect.Struct:
		for i := range v.NumField() {
			v.Field(i).Set(strange(of.Field(i).Type))
		}
	}
	return v
}

// deep is a copy that shares no memory with v, whole with what is behind each
// list in it, or without; with room there is some more behind each one.
func deep(v reflect.Value, whole bool, room int) reflect.Value {
	g := reflect.New(v.Type()).Elem()
	switch {
	case v.Kind() == reflect.Struct:
		for i := range v.NumField() {
			g.Field(i).Set(deep(v.Field(i), whole, room))
		}
	case v.Kind() == reflect.Slice && (!v.IsNil() || room > 0):
		if whole && !v.IsNil() {
			v = v.Slice(0, v.Cap())
		}
		g.Set(reflect.MakeSlice(v.Type(), v.Len()+room, v.Len()+room))
		for i := range v.Len() {
			g.Index(i).Set(deep(v.Index(i), whole, room))
		}
		for i := range room {
			g.Index(v.Len() + i).Set(strange(v.Type().Elem()))
		}
		g.SetLen(v.Len())
	default:
		g.Set(v)
	}
	return g
}

// spoilAll writes over all lists in it and what is behind them.
func spoilAll(v reflect.Value) {
	switch v.Kind() {
	case reflect.Struct:
		for i := range v.NumField() {
			spoilAll(v.Field(i))
		}
	case reflect.Slice:
		v = v.Slice(0, v.Cap())
		for i := range v.Len() {
			spoilAll(v.Index(i))
			v.Index(i).Set(strange(v.Type().Elem()))
		}
	}
}

// disturb makes one thing in it another one.
func disturb(next func(int64) int64, v reflect.Value) {
	switch v.Kind() {
	case reflect.Int64:
		v.SetInt([]int64{least, -1, 0, 1, v.Int() - 1, v.Int() + 1, -v.Int(), 1001, impl.MaxId + 1, greatest}[next(10)])
	case reflect.String:
		text := v.String()
		at := int(next(int64(len(text) + 1)))
		v.SetString([]string{"", text[:at], text[at:], text[:at] + "\n" + text[at:], text + text, text[:at] + "1" + text[min(at+1, len(text)):], text + "\n"}[next(7)])
	case reflect.Struct:
		disturb(next, v.Field(int(next(int64(v.NumField())))))
	case reflect.Slice:
		if v.Len() > 0 && next(3) > 0 {
			disturb(next, v.Index(int(next(int64(v.Len())))))
			return
		}
		disturbList(next, v)
	}
}

func disturbList(next func(int64) int64, v reflect.Value) {
	long := v.Len()
	if long == 0 {
		v.Set(reflect.Append(v, strange(v.Type().Elem())))
		return
	}
	at, other := int(next(int64(long))), int(next(int64(long)))
	switch next(6) {
	case 0:
		v.SetZero()
	case 1:
		v.Set(v.Slice(0, long-1))
	case 2:
		v.Set(reflect.Append(v, v.Index(at)))
	case 3:
		v.Index(at).Set(v.Index(other))
	case 4:
		v.Index(at).SetZero()
	case 5:
		for v.Len() < 110 {
			v.Set(reflect.AppendSlice(v, v))
		}
	}
}

// asker asks one function.
type asker struct {
	t     *testing.T
	name  string
	f     reflect.Value
	right []stock
	wrong stock
	next  func(int64) int64
}

// given are arguments drawn: all right, some of them with a thing or more
// disturbed, or some of them wrong; now and then those of one type are one.
func (a *asker) given() []reflect.Value {
	right, how, list := a.right[a.next(int64(len(a.right)))], a.next(8), []reflect.Value{}
	for i := range a.f.Type().NumIn() {
		of := a.f.Type().In(i)
		v := right.one(a.next, of)
		if how >= 6 && a.next(2) == 0 {
			v = a.wrong.one(a.next, of)
		}
		v = deep(v, false, 0)
		for how >= 4 && how < 7 && a.next(2) == 0 {
			disturb(a.next, v)
		}
		list = append(list, v)
	}
	return list
}

// call answers what the function does, each answer by itself.
func (a *asker) call(list []reflect.Value) []reflect.Value {
	defer func() {
		if why := recover(); why != nil {
			a.t.Fatalf("%s(%v) panics: %v", a.name, list, why)
		}
	}()
	return a.f.Call(list)
}

func each(list []reflect.Value, do func(v reflect.Value) reflect.Value) []reflect.Value {
	all := []reflect.Value{}
	for _, v := range list {
		all = append(all, do(v))
	}
	return all
}

// anys are the values, to be looked at.
func anys(list []reflect.Value) []any {
	all := []any{}
	for _, v := range list {
		all = append(all, v.Interface())
	}
	return all
}

func roomyOne(v reflect.Value) reflect.Value { return deep(v, false, 2) }
func wholeOne(v reflect.Value) reflect.Value { return deep(v, true, 0) }
func plainOne(v reflect.Value) reflect.Value { return deep(v, false, 0) }

// asks the function twice: no argument changes, nor what is behind it, not
// even where all that is answered is written over; and what is answered is
// new, each time. It answers that as a text.
func (a *asker) asks(list []reflect.Value) string {
	own := each(list, roomyOne)
	if a.next(3) == 0 {
		// So nil is given too, and not only what is empty.
		own = each(list, plainOne)
	}
	if len(own) == 2 && own[0].Type() == own[1].Type() && a.next(8) == 0 {
		own[1] = own[0]
	}
	was, given := anys(each(own, wholeOne)), anys(own)
	first := a.call(own)
	isNew(a.t, anys(first), given...)
	told := anys(each(first, plainOne))
	again := a.call(own)
	isNew(a.t, anys(again), append(given, anys(first)...)...)
	for _, v := range first {
		spoilAll(v)
	}
	if !reflect.DeepEqual(anys(each(own, wholeOne)), was) {
		a.t.Fatalf("%s: %v became %v", a.name, was, given)
	}
	if !reflect.DeepEqual(anys(each(again, plainOne)), told) {
		a.t.Fatalf("%s(%v) is %v, and then %v", a.name, given, told, anys(again))
	}
	return fmt.Sprint(told...)
}

// Promise 21: each function, at arguments that are right, wrong, empty, nil
// and too great.
func TestEveryFunctionAnswers(t *testing.T) {
	functions, right, wrong := everyFunction(), []stock{}, wrongStock()
	for i, count := range []int{1, 2, 3, 5, 8, 8, 12, 20} {
		right = append(right, rightStock(walkOf(uint64(272+i)), int64(i%4)+1, count, []int64{5, 40, 400, 1000}[i%3]))
	}
	for i, name := range slices.Sorted(maps.Keys(functions)) {
		a := asker{t: t, name: name, f: reflect.ValueOf(functions[name]), right: right, wrong: wrong, next: walkOf(uint64(280000 + i))}
		told := map[string]bool{}
		for range 300 {
			told[a.asks(a.given())] = true
		}
		if len(told) < 2 && a.f.Type().NumIn() > 0 {
			t.Errorf("%s tells always %v", name, told)
		}
	}
}

// Each function at all of what is wrong, each by itself, the other arguments
// right, and all of it wrong.
func TestEveryFunctionAtWrongArguments(t *testing.T) {
	functions, right, wrong := everyFunction(), rightStock(walkOf(281), 2, 6, 40), wrongStock()
	for i, name := range slices.Sorted(maps.Keys(functions)) {
		a := asker{t: t, name: name, f: reflect.ValueOf(functions[name]), next: walkOf(uint64(282000 + i))}
		of := a.f.Type()
		for at := range of.NumIn() {
			for _, v := range wrong[of.In(at)] {
				some, all := []reflect.Value{}, []reflect.Value{}
				for other := range of.NumIn() {
					some, all = append(some, right.one(a.next, of.In(other))), append(all, wrong.one(a.next, of.In(other)))
				}
				some[at], all[at] = v, v
				a.asks(some)
				a.asks(all)
			}
		}
	}
}

// The functions that are asked are all that the package exports.
func TestEveryFunctionIsAsked(t *testing.T) {
	files, err := filepath.Glob("../impl/*.go")
	if err != nil || len(files) != 20 {
		t.Fatal(files, err)
	}
	names := []string{}
	for _, file := range files {
		read, err := parser.ParseFile(token.NewFileSet(), file, nil, 0)
		if err != nil {
			t.Fatal(err)
		}
		for _, d := range read.Decls {
			if f, is := d.(*ast.FuncDecl); is && f.Recv == nil && f.Name.IsExported() {
				names = append(names, f.Name.Name)
			}
		}
	}
	slices.Sort(names)
	if asked := slices.Sorted(maps.Keys(everyFunction())); !slices.Equal(names, asked) {
		t.Errorf("%v are asked of %v", asked, names)
	}
}

// What is looked for is found: an argument that is changed, or the room behind
// it; and an answer that is not new.
func TestDeepCopies(t *testing.T) {
	w := emptyWorld(2, 1)
	w.Log = []impl.Command{keepBy(0, 1, 3, 4)}
	v := reflect.ValueOf(w)
	own := roomyOne(v)
	if !sameWorld(own.Interface().(impl.World), w) || shares(own.Interface(), w) || sharesItself(own.Interface()) {
		t.Errorf("%v is no copy of %v", own, w)
	}
	was := wholeOne(own).Interface()
	log := own.Interface().(impl.World).Log
	for _, change := range []func(){
		func() { log[0].At[1]++ }, func() { log[0].At[:4][3]++ }, func() { log[:2][1].Seq++ }, func() { log[:3][2].At[0]++ }, func() { own.Interface().(impl.World).Copies[0].Parts[:1][0] = "" },
	} {
		change()
		is := wholeOne(own).Interface()
		if reflect.DeepEqual(is, was) {
			t.Errorf("%v is as %v", is, was)
		}
		was = is
	}
	spoilAll(own)
	if sameWorld(own.Interface().(impl.World), w) || !sameWorld(plainOne(v).Interface().(impl.World), w) {
		t.Errorf("%v is not spoilt", own)
	}
}
