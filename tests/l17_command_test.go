package tests

import (
	"cmp"
	"slices"
	"testing"

	"loop.example/g00273/impl"
)

// noClients are numbers that are no Client.
var noClients = []int64{-1, -2, -7, -8, 8, 9, 15, 16, impl.MaxId, 1 << 32, 1<<32 + 1, 1<<32 + 7, least, least + 1, greatest, greatest - 1}

// noSeqs are numbers that are no Seq; nor are they Ids.
var noSeqs = []int64{0, -1, -2, -impl.MaxId, impl.MaxId + 1, impl.MaxId + 2, 1 << 32, 1<<32 + 1, 1<<32 + 5, least, least + 1, greatest, greatest - 1}

// noReplies are numbers that are no Reply.
var noReplies = []int64{-2, -3, -impl.MaxId, impl.MaxId + 1, impl.MaxId + 2, 1 << 32, 1<<32 + 1, 1<<32 - 1, least, least + 1, greatest, greatest - 1}

// noCommandKinds are numbers that are no Kind.
var noCommandKinds = []int64{0, 3, 4, -1, -2, 1 << 32, 1<<32 + 1, 1<<32 + 2, least, least + 1, least + 2, greatest, greatest - 1}

func keepBy(client, seq int64, at ...int64) impl.Command {
	return impl.Command{Client: client, Seq: seq, Kind: impl.CmKeep, At: at}
}

func goneBy(client, seq, id int64) impl.Command {
	return impl.Command{Client: client, Seq: seq, Kind: impl.CmGone, Id: id}
}

func copyDesk(d impl.Desk) impl.Desk {
	return impl.Desk{State: copyState(d.State), Sessions: slices.Clone(d.Sessions)}
}

func sameDesk(a, b impl.Desk) bool {
	return sameState(a.State, b.State) && slices.Equal(a.Sessions, b.Sessions)
}

func isZeroDesk(d impl.Desk) bool { return isZeroState(d.State) && len(d.Sessions) == 0 }

func emptyDesk(width int64) impl.Desk { return impl.Desk{State: emptyState(width)} }

// commandIn is CommandOk by the document's words.
func commandIn(c impl.Command) bool {
	if c.Client < 0 || c.Client > 7 || c.Seq < 1 || c.Seq > 1000000 {
		return false
	}
	if c.Kind == 1 {
		return impl.PointOk(c.At) && c.Id == 0
	}
	return c.Kind == 2 && c.Id >= 1 && c.Id <= 1000000 && len(c.At) == 0
}

// deskIn is DeskOk by the document's words.
func deskIn(d impl.Desk) bool {
	for i, s := range d.Sessions {
		if s.Client < 0 || s.Client > 7 || s.Seq < 1 || s.Seq > 1000000 || s.Reply < -1 || s.Reply > 1000000 {
			return false
		}
		if i > 0 && d.Sessions[i-1].Client >= s.Client {
			return false
		}
	}
	return len(d.Sessions) <= 8 && stateIn(d.State)
}

// canKeep asks whether the State, a right one, has room for this point.
func canKeep(s impl.State, p []int64) bool {
	return impl.PointOk(p) && int64(len(p)) == s.Width && s.Next < impl.MaxId && !isFull(s)
}

// sessionIn is the Client's Session; its Seq is 0 where there is none.
func sessionIn(d impl.Desk, client int64) impl.Session {
	for _, s := range d.Sessions {
		if s.Client == client {
			return s
		}
	}
	return impl.Session{Client: client}
}

// toldIn are the Sessions with this one in its Client's stead.
func toldIn(list []impl.Session, told impl.Session) []impl.Session {
	others := slices.DeleteFunc(slices.Clone(list), func(s impl.Session) bool { return s.Client == told.Client })
	others = append(others, told)
	slices.SortFunc(others, func(a, b impl.Session) int { return cmp.Compare(a.Client, b.Client) })
	return others
}

// doneIn is what a right Command does to a right State, and its Reply.
func doneIn(s impl.State, c impl.Command) (impl.State, int64) {
	switch {
	case c.Kind == 1 && canKeep(s, c.At):
		return keptIn(s, c.At), s.Next
	case c.Kind == 1:
		return copyState(s), -1
	case slices.Contains(idsOfMarks(s.Marks), c.Id):
		return goneIn(s, c.Id), 1
	}
	return copyState(s), 0
}

// appliedIn is Applied of a right Desk, by the document's words.
func appliedIn(d impl.Desk, c impl.Command) (impl.Desk, int64) {
	last := sessionIn(d, c.Client)
	if !commandIn(c) || c.Seq != last.Seq && c.Seq != last.Seq+1 {
		return copyDesk(d), -2
	}
	if c.Seq == last.Seq {
		return copyDesk(d), last.Reply
	}
	state, reply := doneIn(d.State, c)
	return impl.Desk{State: state, Sessions: toldIn(d.Sessions, impl.Session{Client: c.Client, Seq: c.Seq, Reply: reply})}, reply
}

// foldedIn is Folded of what is right, by the document's words.
func foldedIn(width int64, list []impl.Command) (impl.Desk, []int64) {
	d, replies := emptyDesk(width), []int64{}
	for _, c := range list {
		next, reply := appliedIn(d, c)
		d, replies = next, append(replies, reply)
	}
	return d, replies
}

func isDesk(t *testing.T, d impl.Desk) {
	t.Helper()
	if !impl.DeskOk(d) || !deskIn(d) {
		t.Fatalf("DeskOk(%v) is %t", d, impl.DeskOk(d))
	}
}

func commandIs(t *testing.T, c impl.Command, right bool) {
	t.Helper()
	if impl.CommandOk(c) != right || commandIn(c) != right {
		t.Fatalf("CommandOk(%v) is %t", c, impl.CommandOk(c))
	}
}

// answersTo asks for this Reply, and for a right Desk as the document's words
// make it.
func answersTo(t *testing.T, d impl.Desk, c impl.Command, reply int64) impl.Desk {
	t.Helper()
	g, n := impl.Applied(d, c)
	want, told := appliedIn(d, c)
	if n != reply || told != reply || !sameDesk(g, want) {
		t.Fatalf("Applied(%v, %v) = %v, %d, not %v, %d", d, c, g, n, want, reply)
	}
	isDesk(t, g)
	return g
}

// twice asks that a Command just taken be done once, however often it is
// asked: each time the same is told, and nothing changes.
func twice(t *testing.T, d impl.Desk, c impl.Command, reply int64) {
	t.Helper()
	was := copyDesk(d)
	for range 2 {
		g, n := impl.Applied(d, c)
		switch {
		case n != reply:
			t.Fatalf("Applied(%v, %v) tells %d, not %d", was, c, n, reply)
		case !slices.EqualFunc(g.State.Marks, was.State.Marks, sameMark):
			t.Fatalf("Applied(%v, %v) has the Marks %v", was, c, g.State.Marks)
		case !sameTower(g.State.Tower, was.State.Tower):
			t.Fatalf("Applied(%v, %v) has the Tower %v", was, c, g.State.Tower)
		case g.State.Next != was.State.Next || g.State.Width != was.State.Width:
			t.Fatalf("Applied(%v, %v) has Next %d, Width %d", was, c, g.State.Next, g.State.Width)
		case !slices.Equal(g.Sessions, was.Sessions):
			t.Fatalf("Applied(%v, %v) has the Sessions %v", was, c, g.Sessions)
		}
		isDesk(t, g)
		d = g
	}
}

// takes asks that the Command be done, with this Reply, and be told by its
// Client's Session; and that it be done once.
func takes(t *testing.T, d impl.Desk, c impl.Command, reply int64) impl.Desk {
	t.Helper()
	g := answersTo(t, d, c, reply)
	told := impl.Session{Client: c.Client, Seq: c.Seq, Reply: reply}
	if sessionIn(g, c.Client) != told || !slices.Equal(g.Sessions, toldIn(d.Sessions, told)) {
		t.Fatalf("Applied(%v, %v) has the Sessions %v", d, c, g.Sessions)
	}
	twice(t, g, c, reply)
	return g
}

// leaves asks for a right Desk as it is, and this answer.
func leaves(t *testing.T, d impl.Desk, c impl.Command, reply int64) {
	t.Helper()
	g, n := impl.Applied(d, c)
	if n != reply || !sameDesk(g, d) {
		t.Fatalf("Applied(%v, %v) = %v, %d, not %d", d, c, g, n, reply)
	}
	answersTo(t, d, c, reply)
}

// folds asks for what the document's words make of it.
func folds(t *testing.T, width int64, list []impl.Command) (impl.Desk, []int64) {
	t.Helper()
	g, replies := impl.Folded(width, list)
	want, told := foldedIn(width, list)
	if !slices.Equal(replies, told) || !sameDesk(g, want) {
		t.Fatalf("Folded(%d, %v) = %v, %v, not %v, %v", width, list, g, replies, want, told)
	}
	isDesk(t, g)
	return g, replies
}

// notFolded asks for the zero Desk and nothing.
func notFolded(t *testing.T, width int64, list []impl.Command) {
	t.Helper()
	if g, replies := impl.Folded(width, list); len(replies) != 0 || !isZeroDesk(g) {
		t.Fatalf("Folded(%d, %v) = %v, %v", width, list, g, replies)
	}
}

// notDesk asks for the zero Desk and -2, whatever the Command is.
func notDesk(t *testing.T, d impl.Desk) {
	t.Helper()
	if impl.DeskOk(d) || deskIn(d) {
		t.Fatalf("DeskOk(%v) is %t", d, impl.DeskOk(d))
	}
	list := []impl.Command{keepBy(0, 1, 5), keepBy(7, 1, 1, 2, 3, 4), goneBy(3, 1, 1), goneBy(3, 2, impl.MaxId), {}, goneBy(8, 1, 1), keepBy(2, 0, 1)}
	for _, s := range d.Sessions {
		list = append(list, keepBy(s.Client, s.Seq, 5), goneBy(s.Client, s.Seq+1, 1), goneBy(s.Client, s.Seq+2, 1))
	}
	for _, c := range list {
		if g, n := impl.Applied(d, c); n != -2 || !isZeroDesk(g) {
			t.Fatalf("Applied(%v, %v) = %v, %d", d, c, g, n)
		}
	}
}

// someSessions are drawn: of none, some or all Clients, with numbers at the
// edges among them.
func someSessions(next func(int64) int64) []impl.Session {
	list, rarely := []impl.Session{}, next(4)
	for client := int64(0); client <= 7; client++ {
		if rarely == 0 || next(rarely+1) == 0 {
			seq := []int64{1, 2, impl.MaxId - 1, impl.MaxId, 1 + next(500)}[next(5)]
			reply := []int64{-1, 0, 1, impl.MaxId, next(500)}[next(5)]
			list = append(list, impl.Session{Client: client, Seq: seq, Reply: reply})
		}
	}
	return list
}

// manyDesks are right Desks of each Width: with States of any kind and
// Sessions drawn, none of them ones that Commands have left behind.
func manyDesks() []impl.Desk {
	next, desks := walkOf(201), []impl.Desk{}
	for i, s := range manyStates() {
		if i%3 == 0 {
			desks = append(desks, impl.Desk{State: s, Sessions: someSessions(next)})
		}
	}
	return desks
}

// fewDesks are some of them.
func fewDesks() []impl.Desk {
	next, desks := walkOf(202), []impl.Desk{}
	for i, s := range someStates() {
		d := impl.Desk{State: s, Sessions: someSessions(next)}
		if i%4 == 0 {
			d.Sessions = nil
		}
		desks = append(desks, d)
	}
	return desks
}

// rightCommands are right ones of this Client and Seq: points that can be kept
// where there is room, points of another length, Ids in Marks and others.
func rightCommands(next func(int64) int64, s impl.State, client, seq int64) []impl.Command {
	list := []impl.Command{
		keepBy(client, seq, pointOf(next, int(s.Width), 40)...), keepBy(client, seq, slices.Repeat([]int64{1000 - 2000*next(2)}, int(s.Width))...),
		keepBy(client, seq, make([]int64, 1+s.Width%4)...), goneBy(client, seq, 1), goneBy(client, seq, impl.MaxId), goneBy(client, seq, s.Next),
	}
	for _, id := range goneOf(s.Marks) {
		list = append(list, goneBy(client, seq, id))
	}
	for _, m := range s.Tower.Webs[0].Marks[:min(2, len(s.Tower.Webs[0].Marks))] {
		list = append(list, goneBy(client, seq, m.Id), keepBy(client, seq, slices.Clone(m.At)...))
	}
	return list
}

// wrongCommands are ones that are not right, of this Client and Seq, which may
// be right.
func wrongCommands(client, seq int64) []impl.Command {
	list := []impl.Command{
		{Client: client, Seq: seq}, {Client: client, Seq: seq, Kind: impl.CmKeep}, {Client: client, Seq: seq, Kind: impl.CmGone},
		{Client: client, Seq: seq, Kind: impl.CmGone, At: []int64{1}}, {Client: client, Seq: seq, Kind: impl.CmKeep, Id: 1},
	}
	for _, kind := range noCommandKinds {
		list = append(list,
			impl.Command{Client: client, Seq: seq, Kind: kind, At: []int64{5}}, impl.Command{Client: client, Seq: seq, Kind: kind, Id: 5},
			impl.Command{Client: client, Seq: seq, Kind: kind}, impl.Command{Client: client, Seq: seq, Kind: kind, Id: 5, At: []int64{5}})
	}
	for _, at := range noPoints() {
		list = append(list, keepBy(client, seq, at...))
		if len(at) > 0 {
			list = append(list, impl.Command{Client: client, Seq: seq, Kind: impl.CmGone, Id: 5, At: at})
		}
	}
	for _, id := range append([]int64{1, 2, 5, impl.MaxId}, noSeqs[1:]...) {
		list = append(list, impl.Command{Client: client, Seq: seq, Kind: impl.CmKeep, Id: id, At: []int64{5}})
	}
	for _, id := range noSeqs {
		list = append(list, goneBy(client, seq, id))
	}
	for n := 1; n <= 4; n++ {
		list = append(list, impl.Command{Client: client, Seq: seq, Kind: impl.CmGone, Id: 5, At: make([]int64, n)})
	}
	return list
}

// script is right Commands drawn of Clients below many, each of which goes on
// by its next Seq; now and then one asks again what it asked last, asks
// something else by the same Seq, or is out of turn.
func script(next func(int64) int64, width, count, many int64) []impl.Command {
	list, seqs, lasts := []impl.Command{}, [8]int64{}, [8]impl.Command{}
	for range count {
		client := next(many)
		kind, c := next(12), keepBy(client, seqs[client]+1, pointOf(next, int(width), 30)...)
		switch {
		case kind < 3:
			c = goneBy(client, c.Seq, 1+next(count/2+1))
		case kind == 3:
			c.At = make([]int64, 1+width%4)
		case kind == 4 && c.Seq > 1:
			c = lasts[client]
		case kind == 5 && c.Seq > 1:
			c.Seq--
		case kind == 6:
			c.Seq += 1 + next(3)
		case kind == 7 && c.Seq > 2:
			c.Seq = 1 + next(c.Seq-2)
		}
		if c.Seq == seqs[client]+1 {
			seqs[client], lasts[client] = c.Seq, c
		}
		list = append(list, c)
	}
	return list
}

func TestCommandKinds(t *testing.T) {
	if impl.CmKeep != 1 || impl.CmGone != 2 {
		t.Error(impl.CmKeep, impl.CmGone)
	}
}

func TestNewDesk(t *testing.T) {
	for width := int64(1); width <= 4; width++ {
		g, ok := impl.NewDesk(width)
		state, _ := impl.NewState(width)
		if !ok || len(g.Sessions) != 0 || !sameState(g.State, state) || !sameDesk(g, emptyDesk(width)) {
			t.Fatalf("NewDesk(%d) = %v, %t", width, g, ok)
		}
		isDesk(t, g)
		other, _ := impl.NewDesk(width)
		spoilState(other.State)
		again, _ := impl.NewDesk(width)
		if !sameDesk(g, emptyDesk(width)) || !sameDesk(again, emptyDesk(width)) {
			t.Errorf("NewDesk(%d) became %v and is %v", width, g, again)
		}
	}
}

func TestNewDeskOfNoWidth(t *testing.T) {
	for _, width := range noWidths {
		if g, ok := impl.NewDesk(width); ok || !isZeroDesk(g) {
			t.Errorf("NewDesk(%d) = %v, %t", width, g, ok)
		}
	}
}

func TestCommandOkRight(t *testing.T) {
	next := walkOf(203)
	for client := int64(0); client <= 7; client++ {
		for _, seq := range []int64{1, 2, 7, 500, impl.MaxId - 1, impl.MaxId} {
			for _, id := range []int64{1, 2, impl.MaxMarks, impl.MaxMarks + 1, impl.MaxId - 1, impl.MaxId} {
				commandIs(t, goneBy(client, seq, id), true)
				commandIs(t, impl.Command{Client: client, Seq: seq, Kind: 2, Id: id, At: []int64{}}, true)
			}
			for n := 1; n <= 4; n++ {
				for _, x := range []int64{-1000, -1, 0, 1, 1000} {
					commandIs(t, keepBy(client, seq, slices.Repeat([]int64{x}, n)...), true)
				}
				commandIs(t, keepBy(client, seq, pointOf(next, n, 1000)...), true)
			}
		}
	}
}

func TestCommandOkWrong(t *testing.T) {
	commandIs(t, impl.Command{}, false)
	for _, client := range noClients {
		for _, seq := range []int64{1, 5, impl.MaxId} {
			commandIs(t, keepBy(client, seq, 5), false)
			commandIs(t, goneBy(client, seq, 5), false)
		}
	}
	for client := int64(0); client <= 7; client++ {
		for _, seq := range noSeqs {
			commandIs(t, keepBy(client, seq, 5), false)
			commandIs(t, goneBy(client, seq, 5), false)
		}
		for _, seq := range []int64{1, 5, impl.MaxId} {
			for _, c := range wrongCommands(client, seq) {
				commandIs(t, c, false)
			}
		}
	}
}

// Each field by each: a Command is right where all of them are.
func TestCommandOkByItsWords(t *testing.T) {
	ids := append([]int64{1, 2, impl.MaxId}, noSeqs...)
	right := 0
	for _, client := range append([]int64{0, 3, 7}, noClients...) {
		for _, seq := range ids {
			for _, kind := range []int64{0, 1, 2, 3, -1} {
				for _, id := range ids {
					for _, at := range [][]int64{nil, {}, {5}, {1000, -1000, 0, 3}, {1001}, {1, 2, 3, 4, 5}} {
						c := impl.Command{Client: client, Seq: seq, Kind: kind, Id: id, At: at}
						if commandIn(c) {
							right++
						}
						commandIs(t, c, commandIn(c))
					}
				}
			}
		}
	}
	if right != 9*(2+6) {
		t.Errorf("%d are right", right)
	}
}

// One Client, step by step.
func TestAppliedOrdinary(t *testing.T) {
	d, _ := impl.NewDesk(1)
	for i, c := range []struct {
		command impl.Command
		reply   int64
		ids     []int64
	}{
		{keepBy(2, 1, 4), 1, []int64{1}},
		{keepBy(2, 2, 7), 2, []int64{1, 2}},
		{keepBy(2, 3, 0), 3, []int64{1, 2, 3}},
		{goneBy(2, 4, 2), 1, []int64{1, 3}},
		{goneBy(2, 5, 2), 0, []int64{1, 3}},
		{goneBy(2, 6, 4), 0, []int64{1, 3}},
		{keepBy(2, 7, 7), 4, []int64{1, 3, 4}},
		{keepBy(2, 8, 1, 2), -1, []int64{1, 3, 4}},
		{goneBy(2, 9, 1), 1, []int64{3, 4}},
		{goneBy(2, 10, 1), 0, []int64{3, 4}},
		{goneBy(2, 11, impl.MaxId), 0, []int64{3, 4}},
		{goneBy(2, 12, 4), 1, []int64{3}},
		{keepBy(2, 13, 9), 5, []int64{3, 5}},
		{goneBy(2, 14, 3), 1, []int64{5}},
		{goneBy(2, 15, 5), 1, []int64{}},
		{goneBy(2, 16, 5), 0, []int64{}},
		{keepBy(2, 17, 5), 6, []int64{6}},
	} {
		d = takes(t, d, c.command, c.reply)
		if !slices.Equal(idsOfMarks(d.State.Marks), c.ids) || !slices.Equal(d.Sessions, []impl.Session{{Client: 2, Seq: int64(i) + 1, Reply: c.reply}}) {
			t.Fatalf("after %v it is %v", c.command, d)
		}
	}
	if d.State.Next != 7 || len(d.State.Tower.Webs[0].Marks) != 6 {
		t.Errorf("at last it is %v", d)
	}
}

// What is applied is what Kept and Gone make of the State.
func TestAppliedIsKeptAndGone(t *testing.T) {
	next, kept, gone := walkOf(204), [2]int{}, [2]int{}
	for _, d := range manyDesks() {
		client := next(8)
		seq := sessionIn(d, client).Seq + 1
		if seq > impl.MaxId {
			continue
		}
		for _, c := range rightCommands(next, d.State, client, seq) {
			g, reply := impl.Applied(d, c)
			if c.Kind == impl.CmKeep {
				want, id := impl.Kept(d.State, c.At)
				if reply != id || !sameState(g.State, want) {
					t.Fatalf("Applied(%v, %v) = %v, %d, not %v, %d", d, c, g, reply, want, id)
				}
				kept[min(1, id+1)]++
				continue
			}
			want, is := impl.Gone(d.State, c.Id)
			if is != (reply == 1) || is == (reply == 0) || !sameState(g.State, want) {
				t.Fatalf("Applied(%v, %v) = %v, %d, not %v, %t", d, c, g, reply, want, is)
			}
			gone[reply]++
		}
	}
	if min(kept[0], kept[1], gone[0], gone[1]) < 100 {
		t.Errorf("%v kept, %v gone", kept, gone)
	}
}

// Eight Clients, each with Commands of its own, in any order: the Sessions
// stand by their Clients, and each goes on from its own Seq.
func TestAppliedOfAllClients(t *testing.T) {
	next := walkOf(205)
	for width := int64(1); width <= 4; width++ {
		for range 12 {
			d, _ := impl.NewDesk(width)
			seqs, order := [8]int64{}, []int64{0, 1, 2, 3, 4, 5, 6, 7}
			for range 5 {
				for i := range order {
					j := next(int64(i) + 1)
					order[i], order[j] = order[j], order[i]
				}
				for _, client := range order {
					seqs[client]++
					c := keepBy(client, seqs[client], pointOf(next, int(width), 20)...)
					if next(3) == 0 {
						c = goneBy(client, seqs[client], 1+next(d.State.Next))
					}
					_, reply := doneIn(d.State, c)
					d = takes(t, d, c, reply)
				}
			}
			for client, s := range d.Sessions {
				if s.Client != int64(client) || s.Seq != 5 {
					t.Fatalf("the Sessions are %v", d.Sessions)
				}
			}
			if len(d.Sessions) != 8 {
				t.Fatalf("the Sessions are %v", d.Sessions)
			}
		}
	}
}

// A new Client's Session comes ahead of, between and behind those there, and
// leaves them as they are.
func TestSessionsOfNewClients(t *testing.T) {
	for bits := range 256 {
		d := emptyDesk(1)
		for client := range int64(8) {
			if bits>>client&1 == 1 {
				d.Sessions = append(d.Sessions, impl.Session{Client: client, Seq: 10 + client, Reply: 20 * client})
			}
		}
		for client := range int64(8) {
			if bits>>client&1 == 1 {
				takes(t, d, goneBy(client, 11+client, 1), 0)
				leaves(t, d, goneBy(client, 10+client, 1), 20*client)
				leaves(t, d, goneBy(client, 1, 1), -2)
				continue
			}
			g := takes(t, d, keepBy(client, 1, 5), 1)
			at := slices.Index(g.Sessions, impl.Session{Client: client, Seq: 1, Reply: 1})
			if at < 0 || !slices.Equal(without(g.Sessions, at), d.Sessions) {
				t.Fatalf("of %v the Sessions are %v", d.Sessions, g.Sessions)
			}
			leaves(t, d, keepBy(client, 2, 5), -2)
		}
	}
}

func TestSessionsAheadBetweenBehind(t *testing.T) {
	d, _ := impl.NewDesk(2)
	for _, c := range []struct {
		client  int64
		clients []int64
	}{
		{3, []int64{3}}, {0, []int64{0, 3}}, {7, []int64{0, 3, 7}}, {5, []int64{0, 3, 5, 7}}, {1, []int64{0, 1, 3, 5, 7}},
		{6, []int64{0, 1, 3, 5, 6, 7}}, {2, []int64{0, 1, 2, 3, 5, 6, 7}}, {4, []int64{0, 1, 2, 3, 4, 5, 6, 7}},
	} {
		d = takes(t, d, keepBy(c.client, 1, c.client, 5), d.State.Next)
		clients := []int64{}
		for _, s := range d.Sessions {
			clients = append(clients, s.Client)
		}
		if !slices.Equal(clients, c.clients) {
			t.Fatalf("with %d the Sessions are %v", c.client, d.Sessions)
		}
	}
	replies := []int64{}
	for _, s := range d.Sessions {
		replies = append(replies, s.Reply)
	}
	if !slices.Equal(replies, []int64{2, 5, 7, 1, 8, 4, 6, 3}) {
		t.Errorf("the Sessions are %v", d.Sessions)
	}
}

// Promise 17: of any right Desk and Command, what is asked a second time is
// told as at first, and changes nothing.
func TestAskedTwiceIsDoneOnce(t *testing.T) {
	next, done := walkOf(206), map[int64]int{}
	for _, d := range manyDesks() {
		for range 2 {
			client := next(8)
			seq := sessionIn(d, client).Seq + 1
			if seq > impl.MaxId {
				continue
			}
			list := rightCommands(next, d.State, client, seq)
			for range 3 {
				c := list[next(int64(len(list)))]
				_, reply := doneIn(d.State, c)
				takes(t, d, c, reply)
				done[10*c.Kind+min(reply, 2)]++
			}
		}
	}
	if min(done[9], done[11]+done[12], done[20], done[21]) < 50 {
		t.Errorf("they are %v", done)
	}
}

// Promise 17: so it is whoever else asked in between, and what they asked:
// the Reply is that of the first time.
func TestAskedTwiceWithOthersBetween(t *testing.T) {
	next := walkOf(207)
	for width := int64(1); width <= 4; width++ {
		for range 20 {
			d, _ := impl.NewDesk(width)
			lasts, replies := map[int64]impl.Command{}, map[int64]int64{}
			for range 30 {
				client := next(8)
				list := rightCommands(next, d.State, client, lasts[client].Seq+1)
				c := list[next(int64(len(list)))]
				_, reply := doneIn(d.State, c)
				d = takes(t, d, c, reply)
				lasts[client], replies[client] = c, reply
				for other, last := range lasts {
					twice(t, d, last, replies[other])
				}
			}
		}
	}
}

// Promise 17: a log in which each Command stands once or more often makes the
// same Desk, and each of them is told the same.
func TestFoldedWithMoreOfEach(t *testing.T) {
	next := walkOf(208)
	for width := int64(1); width <= 4; width++ {
		for many := int64(1); many <= 8; many++ {
			list := script(next, width, 30, many)
			once, replies := folds(t, width, list)
			more, told := []impl.Command{}, []int64{}
			for i, c := range list {
				for range 1 + next(3) {
					more, told = append(more, c), append(told, replies[i])
				}
			}
			g, got := impl.Folded(width, more)
			if !sameDesk(g, once) || !slices.Equal(got, told) {
				t.Fatalf("Folded(%d, %v) = %v, %v, not %v, %v", width, more, g, got, once, told)
			}
		}
	}
}

// Promise 17: a log that stands there twice as a whole does all of it once.
// Each Client's last one is told again, all ahead of it are out of turn.
func TestFoldedTwiceAsAWhole(t *testing.T) {
	next := walkOf(209)
	for width := int64(1); width <= 4; width++ {
		for many := int64(1); many <= 8; many++ {
			seqs, list := [8]int64{}, []impl.Command{}
			for range 50 {
				client := next(many)
				seqs[client]++
				c := keepBy(client, seqs[client], pointOf(next, int(width), 30)...)
				if next(3) == 0 {
					c = goneBy(client, seqs[client], 1+next(30))
				}
				list = append(list, c)
			}
			once, replies := folds(t, width, list)
			g, told := folds(t, width, slices.Concat(list, list))
			if !sameDesk(g, once) || !slices.Equal(told[:50], replies) {
				t.Fatalf("twice %v is %v, not %v", list, g, once)
			}
			for i, c := range list {
				again := int64(-2)
				if c.Seq == seqs[c.Client] {
					again = replies[i]
				}
				if told[50+i] != again {
					t.Fatalf("%v is told %d, not %d", c, told[50+i], again)
				}
			}
		}
	}
}

// By the Seq of the Session its Reply is told, whatever else is asked.
func TestAskedOtherBySameSeq(t *testing.T) {
	next := walkOf(210)
	for _, d := range fewDesks() {
		for _, s := range d.Sessions {
			for _, c := range rightCommands(next, d.State, s.Client, s.Seq) {
				leaves(t, d, c, s.Reply)
			}
		}
	}
	d, _ := impl.NewDesk(1)
	d = takes(t, d, keepBy(4, 1, 5), 1)
	for _, c := range []impl.Command{keepBy(4, 1, 5), keepBy(4, 1, 6), keepBy(4, 1, 5, 6), goneBy(4, 1, 1), goneBy(4, 1, 2), goneBy(4, 1, impl.MaxId)} {
		leaves(t, d, c, 1)
	}
	d = takes(t, d, goneBy(4, 2, 1), 1)
	d = takes(t, d, goneBy(4, 3, 1), 0)
	for _, c := range []impl.Command{keepBy(4, 3, 5), keepBy(4, 3, 1, 2), goneBy(4, 3, 1), goneBy(4, 3, 2)} {
		leaves(t, d, c, 0)
	}
	d = takes(t, d, keepBy(4, 4, 1, 2), -1)
	for _, c := range []impl.Command{keepBy(4, 4, 5), keepBy(4, 4, 1, 2), goneBy(4, 4, 1)} {
		leaves(t, d, c, -1)
	}
	d = takes(t, d, keepBy(4, 5, 5), 2)
	if !slices.Equal(idsOfMarks(d.State.Marks), []int64{2}) {
		t.Errorf("it is %v", d)
	}
}

// The Reply that a Session has is told, be it -1, 0 or MaxId.
func TestSessionReplies(t *testing.T) {
	for client := int64(0); client <= 7; client++ {
		for _, seq := range []int64{1, 2, 77, impl.MaxId - 1, impl.MaxId} {
			for _, reply := range []int64{-1, 0, 1, 2, 500, impl.MaxId - 1, impl.MaxId} {
				d := emptyDesk(1)
				d.Sessions = []impl.Session{{Client: client, Seq: seq, Reply: reply}}
				isDesk(t, d)
				leaves(t, d, keepBy(client, seq, 5), reply)
				leaves(t, d, goneBy(client, seq, 5), reply)
				if seq < impl.MaxId {
					takes(t, d, keepBy(client, seq+1, 5), 1)
					takes(t, d, goneBy(client, seq+1, 5), 0)
				}
			}
		}
	}
}

// MaxId is the last Seq of a Client; the others go on.
func TestSeqUpToMaxId(t *testing.T) {
	for client := int64(0); client <= 7; client++ {
		d := emptyDesk(1)
		d.Sessions = []impl.Session{{Client: client, Seq: impl.MaxId - 2, Reply: 3}}
		leaves(t, d, keepBy(client, impl.MaxId, 5), -2)
		d = takes(t, d, keepBy(client, impl.MaxId-1, 5), 1)
		d = takes(t, d, keepBy(client, impl.MaxId, 6), 2)
		leaves(t, d, keepBy(client, impl.MaxId-1, 5), -2)
		leaves(t, d, keepBy(client, impl.MaxId+1, 5), -2)
		leaves(t, d, goneBy(client, impl.MaxId+1, 1), -2)
		leaves(t, d, keepBy(client, 1, 5), -2)
		leaves(t, d, keepBy(client, impl.MaxId, 5), 2)
		d = takes(t, d, goneBy((client+1)%8, 1, 1), 1)
		leaves(t, d, goneBy(client, impl.MaxId, 1), 2)
	}
}

// Below a Session's Seq, more than 1 above it, and more than 1 of a Client
// without one: as it is and -2.
func TestAppliedOutOfTurn(t *testing.T) {
	next := walkOf(211)
	for _, d := range fewDesks() {
		for client := int64(0); client <= 7; client++ {
			last := sessionIn(d, client).Seq
			for _, seq := range []int64{1, 2, 3, last - 2, last - 1, last + 2, last + 3, last + 1<<20, impl.MaxId - 1, impl.MaxId} {
				if seq == last || seq == last+1 {
					continue
				}
				list := rightCommands(next, d.State, client, seq)
				leaves(t, d, list[next(int64(len(list)))], -2)
			}
		}
	}
	d, _ := impl.NewDesk(1)
	leaves(t, d, keepBy(0, 2, 5), -2)
	leaves(t, d, keepBy(7, 2, 5), -2)
	leaves(t, d, keepBy(7, impl.MaxId, 5), -2)
	for seq := int64(1); seq <= 5; seq++ {
		d = takes(t, d, keepBy(0, seq, seq), seq)
	}
	for _, seq := range []int64{1, 2, 3, 4, 7, 8, 100, impl.MaxId} {
		leaves(t, d, keepBy(0, seq, 5), -2)
		leaves(t, d, goneBy(0, seq, 1), -2)
	}
	// The other Clients' numbers are their own.
	leaves(t, d, keepBy(1, 5, 5), -2)
	leaves(t, d, keepBy(1, 6, 5), -2)
	takes(t, d, keepBy(1, 1, 5), 6)
	takes(t, d, keepBy(0, 6, 5), 6)
}

// A Command that is not right is never taken, nor told a Reply: be its Seq
// that of the Session, the next one, or any other.
func TestAppliedNotRight(t *testing.T) {
	for i, d := range fewDesks() {
		client := int64(i) % 8
		last := sessionIn(d, client).Seq
		for _, seq := range []int64{last, last + 1, last + 2, 1} {
			for j, c := range wrongCommands(client, seq) {
				if (i+j)%5 == 0 {
					leaves(t, d, c, -2)
				}
			}
		}
		for _, other := range noClients {
			leaves(t, d, keepBy(other, 1, make([]int64, d.State.Width)...), -2)
			leaves(t, d, goneBy(other, 1, 1), -2)
		}
		for _, seq := range noSeqs {
			leaves(t, d, keepBy(client, seq, make([]int64, d.State.Width)...), -2)
			leaves(t, d, goneBy(client, seq, 1), -2)
		}
		leaves(t, d, impl.Command{}, -2)
	}
	// One that would be right but for the other Kind's field.
	d, _ := impl.NewDesk(1)
	d = takes(t, d, keepBy(3, 1, 5), 1)
	for seq := int64(0); seq <= 3; seq++ {
		for _, c := range wrongCommands(3, seq) {
			leaves(t, d, c, -2)
		}
	}
}

// 1 of an Id in Marks, 0 of one that never was or is gone already.
func TestAppliedGone(t *testing.T) {
	for _, d := range fewDesks() {
		d.Sessions = []impl.Session{{Client: 1, Seq: 4, Reply: 9}}
		ids := idsOfMarks(d.State.Marks)
		for _, m := range d.State.Tower.Webs[0].Marks {
			if !slices.Contains(ids, m.Id) {
				takes(t, d, goneBy(0, 1, m.Id), 0)
			}
		}
		for _, id := range notThere(d.State.Marks) {
			if id >= 1 && id <= impl.MaxId {
				takes(t, d, goneBy(1, 5, id), 0)
			}
		}
		for _, id := range goneOf(d.State.Marks) {
			g := takes(t, d, goneBy(1, 5, id), 1)
			g = takes(t, g, goneBy(1, 6, id), 0)
			g = takes(t, g, goneBy(7, 1, id), 0)
			if !sameTower(g.State.Tower, d.State.Tower) || len(g.State.Marks) != len(ids)-1 {
				t.Fatalf("without %d it is %v", id, g)
			}
		}
	}
	// The greatest Id that can be kept, and MaxId, which can't.
	d := emptyDesk(1)
	d.State.Next = impl.MaxId - 1
	d = takes(t, d, keepBy(0, 1, 5), impl.MaxId-1)
	takes(t, d, goneBy(0, 2, impl.MaxId), 0)
	takes(t, d, goneBy(0, 2, 1), 0)
	takes(t, d, goneBy(0, 2, impl.MaxId-1), 1)
}

// What can't be kept is taken too: its Reply is -1, which the Session tells,
// and the Client goes on from there.
func TestAppliedNotKept(t *testing.T) {
	next := walkOf(212)
	for width := int64(1); width <= 4; width++ {
		last := emptyDesk(width)
		last.State.Next = impl.MaxId
		full := impl.Desk{State: stateGrown(next, width, impl.MaxMarks, 30)}
		empty := impl.Desk{State: stateOver(next, full.State.Tower, width, impl.MaxMarks, 0)}
		for _, d := range []impl.Desk{last, full, empty} {
			d = takes(t, d, keepBy(0, 1, make([]int64, width)...), -1)
			d = takes(t, d, keepBy(7, 1, slices.Repeat([]int64{1000}, int(width))...), -1)
			d = takes(t, d, goneBy(0, 2, impl.MaxId), 0)
			d = takes(t, d, keepBy(0, 3, make([]int64, width)...), -1)
			if !slices.Equal(d.Sessions, []impl.Session{{Client: 0, Seq: 3, Reply: -1}, {Client: 7, Seq: 1, Reply: -1}}) {
				t.Fatalf("the Sessions are %v", d.Sessions)
			}
		}
		d := emptyDesk(width)
		for other := int64(1); other <= 4; other++ {
			reply := int64(-1)
			if other == width {
				reply = 1
			}
			d = takes(t, d, keepBy(2, other, make([]int64, other)...), reply)
		}
		if d.State.Next != 2 || len(d.State.Marks) != 1 {
			t.Fatalf("it is %v", d)
		}
	}
}

// 60 are kept by one Client or by many, then no more.
func TestAppliedUpToMaxMarks(t *testing.T) {
	next := walkOf(213)
	for many := int64(1); many <= 8; many += 7 {
		d, _ := impl.NewDesk(2)
		for i := range int64(impl.MaxMarks) {
			d = takes(t, d, keepBy(i%many, i/many+1, pointOf(next, 2, 50)...), i+1)
		}
		seq := sessionIn(d, 0).Seq
		d = takes(t, d, keepBy(0, seq+1, 0, 0), -1)
		d = takes(t, d, goneBy(0, seq+2, 30), 1)
		d = takes(t, d, keepBy(0, seq+3, 0, 0), -1)
		if len(d.State.Marks) != impl.MaxMarks-1 || d.State.Next != impl.MaxMarks+1 {
			t.Errorf("it is %v", d)
		}
	}
}

// Any Command upon any right Desk, against the document's words.
func TestAppliedByItsWords(t *testing.T) {
	next, told := walkOf(214), map[bool]int{}
	for _, d := range manyDesks() {
		isDesk(t, d)
		for range 6 {
			client := next(8)
			last := sessionIn(d, client).Seq
			list := rightCommands(next, d.State, client, max(1, last+next(5)-2))
			if next(4) == 0 {
				list = wrongCommands(client, last+next(2))
			}
			c := list[next(int64(len(list)))]
			_, reply := appliedIn(d, c)
			answersTo(t, d, c, reply)
			told[reply == -2]++
		}
	}
	if told[true] < 300 || told[false] < 300 {
		t.Errorf("they are %v", told)
	}
}

func TestFoldedOrdinary(t *testing.T) {
	for width := int64(1); width <= 4; width++ {
		for _, none := range [][]impl.Command{nil, {}} {
			g, replies := folds(t, width, none)
			if fresh, _ := impl.NewDesk(width); len(replies) != 0 || !sameDesk(g, fresh) {
				t.Fatalf("Folded(%d, %v) = %v, %v", width, none, g, replies)
			}
		}
		g, replies := folds(t, width, []impl.Command{keepBy(5, 1, make([]int64, width)...)})
		if !slices.Equal(replies, []int64{1}) || !slices.Equal(g.Sessions, []impl.Session{{Client: 5, Seq: 1, Reply: 1}}) || len(g.State.Marks) != 1 {
			t.Fatalf("with one it is %v, %v", g, replies)
		}
		g, replies = folds(t, width, []impl.Command{keepBy(5, 2, make([]int64, width)...)})
		if !slices.Equal(replies, []int64{-2}) || !sameDesk(g, emptyDesk(width)) {
			t.Fatalf("with one out of turn it is %v, %v", g, replies)
		}
	}
	g, replies := folds(t, 1, []impl.Command{
		keepBy(2, 1, 5), keepBy(0, 1, 7), keepBy(2, 1, 5), goneBy(2, 2, 1), goneBy(0, 2, 1), goneBy(2, 4, 2), keepBy(7, 1, 1, 2), keepBy(7, 1, 1), goneBy(2, 3, 2), keepBy(7, 2, 1),
	})
	if !slices.Equal(replies, []int64{1, 2, 1, 1, 0, -2, -1, -1, 1, 3}) || !slices.Equal(idsOfMarks(g.State.Marks), []int64{3}) ||
		!slices.Equal(g.Sessions, []impl.Session{{Client: 0, Seq: 2, Reply: 0}, {Client: 2, Seq: 3, Reply: 1}, {Client: 7, Seq: 2, Reply: 3}}) {
		t.Errorf("it is %v, %v", g, replies)
	}
}

// Folded is Applied one by one from NewDesk on; and of a list it is that of
// its first part, from which Applied goes on.
func TestFoldedIsAppliedOneByOne(t *testing.T) {
	next, told := walkOf(215), map[int64]int{}
	for width := int64(1); width <= 4; width++ {
		for _, count := range []int64{1, 2, 3, 10, 40, 99, 100} {
			for _, many := range []int64{1, 3, 8} {
				list := script(next, width, count, many)
				whole, replies := folds(t, width, list)
				first := next(count + 1)
				part, begun := folds(t, width, list[:first])
				one, _ := impl.NewDesk(width)
				for i, c := range list {
					var reply int64
					if one, reply = impl.Applied(one, c); reply != replies[i] {
						t.Fatalf("%v is told %d, not %d", c, reply, replies[i])
					}
					if int64(i) < first {
						continue
					}
					part, reply = impl.Applied(part, c)
					begun = append(begun, reply)
				}
				if !sameDesk(one, whole) || !sameDesk(part, whole) || !slices.Equal(begun, replies) {
					t.Fatalf("of %v, parted at %d: %v and %v, not %v", list, first, one, part, whole)
				}
				for _, reply := range replies {
					told[min(reply, 2)]++
				}
			}
		}
	}
	if min(told[-2], told[-1], told[0], told[1], told[2]) < 50 {
		t.Errorf("they are told %v", told)
	}
}

func TestFoldedUpToHundred(t *testing.T) {
	next := walkOf(216)
	for width := int64(1); width <= 4; width++ {
		long := script(next, width, 200, 8)
		_, replies := folds(t, width, long[:100])
		if len(replies) != 100 {
			t.Fatalf("100 are told %v", replies)
		}
		for _, count := range []int{101, 102, 150, 200} {
			notFolded(t, width, long[:count])
		}
		notFolded(t, width, slices.Repeat([]impl.Command{goneBy(0, 1, 1)}, 101))
		folds(t, width, slices.Repeat([]impl.Command{goneBy(0, 1, 1)}, 100))
	}
}

func TestFoldedOfNoWidth(t *testing.T) {
	for _, width := range noWidths {
		notFolded(t, width, nil)
		notFolded(t, width, []impl.Command{goneBy(0, 1, 1)})
		notFolded(t, width, []impl.Command{keepBy(0, 1, 5), keepBy(0, 2, 5)})
		notFolded(t, width, []impl.Command{{}})
	}
}

// One Command that is not right, wherever it stands.
func TestFoldedWithOneNotRight(t *testing.T) {
	next := walkOf(217)
	wrong := append(wrongCommands(3, 1), impl.Command{}, keepBy(-1, 1, 5), keepBy(8, 1, 5), goneBy(0, 0, 1), goneBy(0, impl.MaxId+1, 1))
	for width := int64(1); width <= 4; width++ {
		list := script(next, width, 20, 8)
		folds(t, width, list)
		for _, c := range wrong {
			notFolded(t, width, []impl.Command{c})
			for _, at := range []int{0, 1, int(next(20)), 19} {
				other := slices.Clone(list)
				other[at] = c
				notFolded(t, width, other)
			}
			notFolded(t, width, append(slices.Clone(list), c))
		}
	}
}

func TestDeskOkRight(t *testing.T) {
	for _, s := range someStates() {
		isDesk(t, impl.Desk{State: s})
		for bits := range 256 {
			d := impl.Desk{State: s, Sessions: []impl.Session{}}
			for client := range int64(8) {
				if bits>>client&1 == 1 {
					seq := []int64{1, impl.MaxId, 40, impl.MaxId - 1}[client%4]
					d.Sessions = append(d.Sessions, impl.Session{Client: client, Seq: seq, Reply: []int64{-1, 0, impl.MaxId}[client%3]})
				}
			}
			if bits%16 == 0 || bits == 255 {
				isDesk(t, d)
			}
		}
	}
}

func TestDeskWrongState(t *testing.T) {
	next, wrong := walkOf(218), 0
	for _, sessions := range [][]impl.Session{nil, {{Client: 3, Seq: 1}}} {
		for _, s := range []impl.State{
			{}, {Width: 1, Next: 1}, {Width: 1, Tower: impl.NewTower()}, {Tower: impl.NewTower(), Next: 1}, {Width: 5, Tower: impl.NewTower(), Next: 1},
			{Width: 1, Marks: axisMarks(1, 0, 5), Tower: impl.NewTower(), Next: 2}, {Width: 1, Tower: impl.NewTower(), Next: impl.MaxId + 1},
		} {
			notDesk(t, impl.Desk{State: s, Sessions: sessions})
		}
	}
	for range 3000 {
		d := impl.Desk{State: disturbedState(next, stateGrown(next, 1+next(4), int(next(5)), 9)), Sessions: someSessions(next)}
		if stateIn(d.State) {
			isDesk(t, d)
			continue
		}
		notDesk(t, d)
		wrong++
	}
	if wrong < 500 {
		t.Errorf("only %d were wrong", wrong)
	}
}

// eachClient has Sessions of the Clients from 0 on.
func eachClient(count int64) []impl.Session {
	list := []impl.Session{}
	for client := range count {
		list = append(list, impl.Session{Client: client, Seq: 5, Reply: client - 1})
	}
	return list
}

func TestDeskWrongSessions(t *testing.T) {
	for width := int64(1); width <= 4; width++ {
		d := emptyDesk(width)
		for count := int64(0); count <= 12; count++ {
			d.Sessions = eachClient(count)
			if count <= 8 {
				isDesk(t, d)
			} else {
				notDesk(t, d)
			}
		}
		// Nine or more, with Clients that are right one by one.
		d.Sessions = append(eachClient(8), eachClient(8)[7])
		notDesk(t, d)
		d.Sessions = append(eachClient(1), eachClient(8)...)
		notDesk(t, d)
		d.Sessions = slices.Repeat(eachClient(8), 50)
		notDesk(t, d)
		for at := range int64(8) {
			changed := func(to impl.Session) impl.Desk {
				other := impl.Desk{State: d.State, Sessions: eachClient(8)}
				other.Sessions[at] = to
				return other
			}
			for _, seq := range noSeqs {
				notDesk(t, changed(impl.Session{Client: at, Seq: seq, Reply: 1}))
			}
			for _, reply := range noReplies {
				notDesk(t, changed(impl.Session{Client: at, Seq: 1, Reply: reply}))
			}
			for _, client := range append([]int64{at + 1, at - 1}, noClients...) {
				notDesk(t, changed(impl.Session{Client: client, Seq: 1, Reply: 1}))
			}
		}
	}
}

// Clients that are alike or fall, of two and of more; and one alone that is
// out of range.
func TestDeskSessionsNotRising(t *testing.T) {
	for a := int64(-2); a <= 9; a++ {
		for b := int64(-2); b <= 9; b++ {
			d := emptyDesk(2)
			d.Sessions = []impl.Session{{Client: a, Seq: 1}, {Client: b, Seq: 1}}
			if a >= 0 && a < b && b <= 7 {
				isDesk(t, d)
			} else {
				notDesk(t, d)
			}
			for _, clients := range [][]int64{{1, 3, a}, {1, a, 5}, {a, 4, 6}, {0, 1, 2, 3, 4, 5, 6, a}} {
				d.Sessions = nil
				for _, client := range clients {
					d.Sessions = append(d.Sessions, impl.Session{Client: client, Seq: 1, Reply: -1})
				}
				if deskIn(d) {
					isDesk(t, d)
				} else {
					notDesk(t, d)
				}
			}
		}
	}
	for _, client := range noClients {
		d := emptyDesk(3)
		d.Sessions = []impl.Session{{Client: client, Seq: 1}}
		notDesk(t, d)
	}
	for client := range int64(8) {
		d := emptyDesk(3)
		d.Sessions = []impl.Session{{Client: client, Seq: 1}}
		isDesk(t, d)
	}
	wrapped := emptyDesk(1)
	wrapped.Sessions = []impl.Session{{Client: 5, Seq: 1}, {Client: greatest, Seq: 1}, {Client: least, Seq: 1}}
	notDesk(t, wrapped)
}

// roomyDesk is the Desk with spare room behind all of its lists, and a look at
// the whole of that memory.
func roomyDesk(d impl.Desk) (impl.Desk, func() []int64) {
	state, look := roomyState(d.State)
	whole := append(slices.Clone(d.Sessions), impl.Session{Client: 81, Seq: 82, Reply: 83}, impl.Session{Client: 84, Seq: 85, Reply: 86})
	return impl.Desk{State: state, Sessions: whole[:len(d.Sessions)]}, func() []int64 {
		all := append(look(), state.Width, state.Next, state.Tower.Dice)
		for _, s := range whole {
			all = append(all, s.Client, s.Seq, s.Reply)
		}
		return all
	}
}

// roomyCommands are the Commands with spare room behind the list and behind
// each At, and a look at the whole of that memory.
func roomyCommands(list []impl.Command) ([]impl.Command, func() []int64) {
	whole := append(slices.Clone(list), keepBy(1, 91, 92, 93), goneBy(94, 95, 96))
	for i, c := range whole {
		whole[i].At, _ = roomy(c.At)
	}
	return whole[:len(list)], func() []int64 {
		all := []int64{}
		for _, c := range whole {
			all = append(all, c.Client, c.Seq, c.Kind, c.Id, int64(len(c.At)), int64(cap(c.At)))
			all = append(all, c.At[:cap(c.At)]...)
		}
		return all
	}
}

// spoilDesk writes over all lists of an answer and the room behind them.
func spoilDesk(d impl.Desk) {
	spoilState(d.State)
	sessions := d.Sessions[:cap(d.Sessions)]
	for i := range sessions {
		sessions[i] = impl.Session{Client: -77, Seq: -78, Reply: -79}
	}
}

func spoilCommands(list []impl.Command) {
	for i, c := range list {
		spoilNumbers(c.At)
		list[i] = impl.Command{Client: -77, Seq: -78, Kind: -79, Id: -80, At: []int64{-81}}
	}
}

// deskStays asks all functions, writes over what they answer, and looks
// whether an argument, or the room behind it, has changed.
func deskStays(t *testing.T, d impl.Desk, c impl.Command) {
	t.Helper()
	own, look := roomyDesk(d)
	list, lookList := roomyCommands([]impl.Command{c, c})
	kept, keptList := look(), lookList()
	impl.DeskOk(own)
	impl.CommandOk(list[0])
	g, _ := impl.Applied(own, list[0])
	spoilDesk(g)
	g, replies := impl.Folded(d.State.Width, list)
	spoilDesk(g)
	spoilNumbers(replies)
	if !slices.Equal(look(), kept) || !slices.Equal(lookList(), keptList) {
		t.Fatalf("%v, %v became %v, %v", d, c, own, list)
	}
}

func TestDeskArgumentsStay(t *testing.T) {
	next := walkOf(219)
	for _, d := range manyDesks() {
		client := next(8)
		last := sessionIn(d, client).Seq
		list := rightCommands(next, d.State, client, last+1)
		list = append(list[:4], goneBy(client, last, 1), goneBy(client, last+2, 1), keepBy(client, last, make([]int64, d.State.Width)...))
		for _, c := range list {
			deskStays(t, d, c)
		}
	}
	for i, d := range fewDesks() {
		for j, c := range wrongCommands(int64(i)%8, 1) {
			if (i+j)%5 == 0 {
				deskStays(t, d, c)
			}
		}
		wrong := copyDesk(d)
		wrong.Sessions = append(wrong.Sessions, impl.Session{Client: 8, Seq: 1})
		deskStays(t, wrong, goneBy(0, 1, 1))
		wrong = copyDesk(d)
		wrong.State.Next = 0
		deskStays(t, wrong, keepBy(0, 1, make([]int64, d.State.Width)...))
	}
}

func TestFoldedArgumentsStay(t *testing.T) {
	next := walkOf(220)
	for width := int64(0); width <= 5; width++ {
		for _, count := range []int64{0, 1, 20, 100, 101} {
			asked := script(next, max(1, width%5), count, 8)
			list, look := roomyCommands(asked)
			kept := look()
			g, replies := impl.Folded(width, list)
			spoilDesk(g)
			spoilNumbers(replies)
			if !slices.Equal(look(), kept) {
				t.Fatalf("Folded(%d, %v): they became %v", width, asked, list)
			}
		}
	}
}

// What is written over arguments or another answer changes no answer, be the
// Desk another one or told as it is.
func TestDeskAnswersAreNew(t *testing.T) {
	next, told := walkOf(221), map[bool]int{}
	for _, d := range manyDesks() {
		client := next(8)
		last := sessionIn(d, client).Seq
		list := rightCommands(next, d.State, client, last+1)
		list = append(list[:4], goneBy(client, last, 1), goneBy(client, last+2, 1), goneBy(client, last+1, 0))
		for _, c := range list {
			want, _ := appliedIn(d, c)
			own, _ := roomyDesk(d)
			commands, _ := roomyCommands([]impl.Command{c})
			g, _ := impl.Applied(own, commands[0])
			again, _ := impl.Applied(own, commands[0])
			spoilDesk(again)
			spoilDesk(own)
			spoilCommands(commands)
			if !sameDesk(g, want) {
				t.Fatalf("Applied(%v, %v) became %v, not %v", d, c, g, want)
			}
			told[sameDesk(d, want)]++
		}
	}
	if min(told[true], told[false]) < 300 {
		t.Errorf("%d as they are, %d others", told[true], told[false])
	}
}

func TestFoldedAnswersAreNew(t *testing.T) {
	next := walkOf(222)
	for width := int64(1); width <= 4; width++ {
		for _, count := range []int64{0, 1, 2, 30, 100} {
			want := script(next, width, count, 8)
			list, _ := roomyCommands(want)
			desk, replies := impl.Folded(width, list)
			other, otherReplies := impl.Folded(width, list)
			spoilDesk(other)
			spoilNumbers(otherReplies)
			spoilCommands(list)
			wantDesk, wantReplies := foldedIn(width, want)
			if !sameDesk(desk, wantDesk) || !slices.Equal(replies, wantReplies) {
				t.Fatalf("Folded(%d, %v) became %v, %v", width, want, desk, replies)
			}
			spoilNumbers(replies)
			if !sameDesk(desk, wantDesk) {
				t.Fatalf("Folded(%d, %v) became %v with what it tells", width, want, desk)
			}
		}
	}
}

// stateOf makes the State of what is applied.
func stateOf(d impl.Desk, c impl.Command) func() impl.State {
	return func() impl.State {
		g, _ := impl.Applied(d, c)
		return g.State
	}
}

// No two lists of one answer share memory, whether it is done or told as it
// is.
func TestDeskListsAreApart(t *testing.T) {
	next := walkOf(223)
	for i, d := range manyDesks() {
		if i%4 > 0 {
			continue
		}
		d.Sessions = []impl.Session{{Client: 2, Seq: 3, Reply: 4}}
		was := copyDesk(d)
		list := append(rightCommands(next, d.State, 2, 4)[:4], goneBy(2, 3, 1), goneBy(2, 5, 1), goneBy(2, 4, 0), goneBy(1, 1, 1))
		for _, c := range list {
			want, _ := appliedIn(was, c)
			listsApart(t, stateOf(d, c), want.State)
		}
		if !sameDesk(d, was) {
			t.Fatalf("%v became %v", was, d)
		}
	}
	for width := int64(1); width <= 4; width++ {
		list := script(next, width, 60, 4)
		want, _ := foldedIn(width, list)
		listsApart(t, func() impl.State {
			g, _ := impl.Folded(width, list)
			return g.State
		}, want.State)
	}
}

// All webs of the Desk are one memory, and so are all marks, places and links:
// what is answered has each of them for itself.
func TestDeskOfSharedMemory(t *testing.T) {
	for width := 1; width <= 4; width++ {
		one, links := slices.Repeat([]int64{5}, width), []int64{3, 4}
		w := impl.Web{Marks: []impl.Mark{{Id: 1, At: one}, {Id: 2, At: one}, {Id: 3, At: one}, {Id: 4, At: one}}, Links: [][]int64{links, links, {1, 2}, {1, 2}}}
		for _, dice := range startDice() {
			tower := impl.Tower{Dice: dice, Webs: []impl.Web{w, w, w, w}}
			d := impl.Desk{State: impl.State{Width: int64(width), Marks: w.Marks[1:3], Tower: tower, Next: 5}, Sessions: []impl.Session{{Client: 2, Seq: 3, Reply: 4}}}
			was := copyDesk(d)
			for _, c := range []impl.Command{keepBy(2, 4, one...), goneBy(2, 4, 2), goneBy(2, 4, 1), goneBy(2, 3, 2), goneBy(2, 9, 2), keepBy(2, 4), keepBy(5, 1, one...)} {
				want, _ := appliedIn(was, c)
				listsApart(t, stateOf(d, c), want.State)
			}
			if !sameDesk(d, was) {
				t.Fatalf("%v became %v", was, d)
			}
		}
	}
}

// The point that is kept may be memory of the Desk; so may Commands share one.
func TestDeskOfOneMemory(t *testing.T) {
	d, _ := foldedIn(2, []impl.Command{keepBy(0, 1, 3, 4), keepBy(0, 2, 5, 6), keepBy(1, 1, 7, 8)})
	own, look := roomyDesk(d)
	was := look()
	for i := range own.State.Marks {
		for _, at := range [][]int64{own.State.Marks[i].At, own.State.Tower.Webs[0].Marks[i].At} {
			spoilDesk(takes(t, own, keepBy(0, 3, at...), 4))
			spoilDesk(takes(t, own, keepBy(6, 1, at[:1]...), -1))
		}
	}
	if !slices.Equal(look(), was) {
		t.Errorf("%v became %v", d, own)
	}
	at := []int64{1, 2}
	list := []impl.Command{keepBy(0, 1, at...), keepBy(1, 1, at...), keepBy(2, 1, at...)}
	want, _ := foldedIn(2, list)
	listsApart(t, func() impl.State {
		g, _ := impl.Folded(2, list)
		return g.State
	}, want.State)
	if !slices.Equal(at, []int64{1, 2}) {
		t.Errorf("it became %v", at)
	}
}

// A Desk that is applied to goes on as it was: what was made of it is apart.
func TestAppliedFromOneDeskTwice(t *testing.T) {
	next := walkOf(224)
	for width := int64(1); width <= 4; width++ {
		d, _ := foldedIn(width, script(next, width, 40, 5))
		own, look := roomyDesk(d)
		was := look()
		for range 10 {
			a, b := own, own
			for range 6 {
				for _, both := range []*impl.Desk{&a, &b} {
					client := next(8)
					list := rightCommands(next, both.State, client, sessionIn(*both, client).Seq+1)
					c := list[next(int64(len(list)))]
					_, reply := doneIn(both.State, c)
					*both = takes(t, *both, c, reply)
				}
			}
		}
		if !slices.Equal(look(), was) {
			t.Fatalf("%v became %v", d, own)
		}
	}
}

// Many calls at once do not meet: nothing is kept between them.
func TestDesksAtOnce(t *testing.T) {
	list := script(walkOf(225), 2, 60, 8)
	want, told := foldedIn(2, list)
	same := make(chan bool)
	for range 8 {
		go func() {
			g, replies := impl.Folded(2, list)
			same <- sameDesk(g, want) && slices.Equal(replies, told)
		}()
	}
	for range 8 {
		if !<-same {
			t.Error("one is another")
		}
	}
}
