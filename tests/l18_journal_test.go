package tests

import (
	"fmt"
	"regexp"
	"slices"
	"strconv"
	"strings"
	"testing"

	"loop.example/g00273/impl"
)

const (
	// mostPieced is how many bytes a text may have that is told in pieces.
	mostPieced = 100000
	// mostPiece is how many bytes each of them may have.
	mostPiece = 1000
	// checkCount is how many Checks there are: from 0 on, all below it.
	checkCount = 999983
	// numberForm is a number as the document has it.
	numberForm = `(?:0|-?[1-9][0-9]{0,8})`
)

var commandForm = regexp.MustCompile(`^(` + numberForm + `) (` + numberForm + `) (?:keep (` + numberForm + `(?: ` + numberForm + `)*)|gone (` + numberForm + `))$`)

// noSizes are numbers that are no size of a piece.
var noSizes = []int64{0, -1, -2, -mostPiece, mostPiece + 1, mostPiece + 2, mostPieced, 1 << 32, 1<<32 + 1, 1<<32 + mostPiece, least, least + 1, greatest, greatest - 1}

// blanks are the numbers with blanks between.
func blanks(list ...int64) string { return strings.Trim(fmt.Sprint(list), "[]") }

// told are the numbers of a text; where it has none it is 0.
func told(text string) []int64 {
	list := []int64{}
	for _, word := range strings.Fields(text) {
		n, _ := strconv.ParseInt(word, 10, 64)
		list = append(list, n)
	}
	return list
}

func copyCommand(c impl.Command) impl.Command {
	c.At = slices.Clone(c.At)
	return c
}

func sameCommand(a, b impl.Command) bool {
	return a.Client == b.Client && a.Seq == b.Seq && a.Kind == b.Kind && a.Id == b.Id && slices.Equal(a.At, b.At)
}

// showIn is ShowCommand of a right Command, by the document's words.
func showIn(c impl.Command) string {
	if c.Kind == 1 {
		return fmt.Sprintf("%d %d keep %s", c.Client, c.Seq, blanks(c.At...))
	}
	return fmt.Sprintf("%d %d gone %d", c.Client, c.Seq, c.Id)
}

// readIn is ReadCommand, by the form of the text and the document's words.
func readIn(s string) (impl.Command, bool) {
	parts := commandForm.FindStringSubmatch(s)
	if parts == nil {
		return impl.Command{}, false
	}
	c := impl.Command{Client: told(parts[1])[0], Seq: told(parts[2])[0], Kind: 1, At: told(parts[3])}
	if parts[4] != "" {
		c = impl.Command{Client: c.Client, Seq: c.Seq, Kind: 2, Id: told(parts[4])[0]}
	}
	if !commandIn(c) {
		return impl.Command{}, false
	}
	return c, true
}

// checkIn is Check, from the last byte on: each one counts 41 times as much as
// the one behind it, and the 9 ahead of all so much more.
func checkIn(s string) int64 {
	sum, by := int64(0), int64(1)
	for i := len(s) - 1; i >= 0; i-- {
		sum = (sum + by*int64(s[i])) % checkCount
		by = by * 41 % checkCount
	}
	return (sum + 9*by) % checkCount
}

// aheadIn are the lines of a Picture ahead of the Check, by the document's
// words. It is of any Desk with four webs.
func aheadIn(d impl.Desk) []string {
	lines, s := []string{""}, d.State
	for _, m := range s.Tower.Webs[0].Marks {
		there, webs := 0, 0
		if slices.Contains(idsOfMarks(s.Marks), m.Id) {
			there = 1
		}
		for _, w := range s.Tower.Webs {
			if slices.Contains(idsOfMarks(w.Marks), m.Id) {
				webs++
			}
		}
		lines = append(lines, fmt.Sprintf("%d %d %d %s", m.Id, there, webs, blanks(m.At...)))
	}
	for _, w := range s.Tower.Webs {
		for _, links := range w.Links {
			if len(links) == 0 {
				lines = append(lines, "-")
			} else {
				lines = append(lines, blanks(links...))
			}
		}
	}
	for _, one := range d.Sessions {
		lines = append(lines, blanks(one.Client, one.Seq, one.Reply))
	}
	lines[0] = blanks(s.Width, s.Next, s.Tower.Dice, int64(len(lines)))
	return lines
}

// signed are the lines with their Check.
func signed(lines []string) string {
	text := ""
	if len(lines) > 0 {
		text = strings.Join(lines, "\n") + "\n"
	}
	return text + fmt.Sprint(checkIn(text)) + "\n"
}

// recounted has in its first line how many come behind it.
func recounted(lines []string) []string {
	lines = slices.Clone(lines)
	head := strings.Split(lines[0], " ")
	head[len(head)-1] = fmt.Sprint(len(lines))
	lines[0] = strings.Join(head, " ")
	return lines
}

// pictureIn is Picture of a right Desk, by the document's words.
func pictureIn(d impl.Desk) string { return signed(aheadIn(d)) }

// linesOf are the lines of a text ahead of its Check.
func linesOf(picture string) []string {
	lines := strings.Split(picture, "\n")
	return lines[:len(lines)-2]
}

// deskBy is the Desk that the lines tell if so many of them are of marks, as
// far as they tell one at all.
func deskBy(lines []string, marks int) (impl.Desk, bool) {
	rows := [][]int64{}
	for _, line := range lines {
		rows = append(rows, told(line))
	}
	if len(rows) < 1+marks || len(rows[0]) < 3 {
		return impl.Desk{}, false
	}
	d := impl.Desk{State: impl.State{Width: rows[0][0], Next: rows[0][1], Tower: emptyTower(rows[0][2])}}
	for _, row := range rows[1 : 1+marks] {
		if len(row) < 4 || row[2] < 1 || row[2] > 4 {
			return impl.Desk{}, false
		}
		m := impl.Mark{Id: row[0], At: row[3:]}
		for n := range row[2] {
			d.State.Tower.Webs[n].Marks = append(d.State.Tower.Webs[n].Marks, copyMark(m))
		}
		if row[1] == 1 {
			d.State.Marks = append(d.State.Marks, copyMark(m))
		}
	}
	at := 1 + marks
	for n := range d.State.Tower.Webs {
		for range d.State.Tower.Webs[n].Marks {
			if at == len(rows) {
				return impl.Desk{}, false
			}
			links := rows[at]
			if lines[at] == "-" {
				links = nil
			}
			d.State.Tower.Webs[n].Links = append(d.State.Tower.Webs[n].Links, links)
			at++
		}
	}
	for _, row := range rows[at:] {
		if len(row) != 3 {
			return impl.Desk{}, false
		}
		d.Sessions = append(d.Sessions, impl.Session{Client: row[0], Seq: row[1], Reply: row[2]})
	}
	return d, true
}

// drawnIn are all right Desks of which Picture makes this text: with any
// number of marks it is tried.
func drawnIn(text string) []impl.Desk {
	desks := []impl.Desk{}
	if strings.Count(text, "\n") < 2 || !strings.HasSuffix(text, "\n") {
		return desks
	}
	lines := linesOf(text)
	for marks := range min(len(lines), impl.MaxMarks+1) {
		if d, ok := deskBy(lines, marks); ok && deskIn(d) && pictureIn(d) == text {
			desks = append(desks, d)
		}
	}
	return desks
}

func shows(t *testing.T, c impl.Command, text string) {
	t.Helper()
	if g := impl.ShowCommand(c); g != text || showIn(c) != text {
		t.Fatalf("ShowCommand(%v) = %q, not %q", c, g, text)
	}
}

// thereAndBack asks for the text of a right Command, and for it of the text.
func thereAndBack(t *testing.T, c impl.Command, text string) {
	t.Helper()
	shows(t, c, text)
	if g, ok := impl.ReadCommand(text); !ok || !sameCommand(g, c) {
		t.Fatalf("ReadCommand(%q) = %v, %t", text, g, ok)
	}
}

func notRead(t *testing.T, text string) {
	t.Helper()
	if g, ok := impl.ReadCommand(text); ok || !sameCommand(g, impl.Command{}) {
		t.Fatalf("ReadCommand(%q) = %v, %t", text, g, ok)
	}
}

// reads asks for what the document's words have, and tells whether it is one.
func reads(t *testing.T, text string) bool {
	t.Helper()
	want, is := readIn(text)
	if g, ok := impl.ReadCommand(text); ok != is || !sameCommand(g, want) {
		t.Fatalf("ReadCommand(%q) = %v, %t, not %v, %t", text, g, ok, want, is)
	}
	return is
}

func notDrawn(t *testing.T, text string) {
	t.Helper()
	if g, ok := impl.Drawn(text); ok || !isZeroDesk(g) {
		t.Fatalf("Drawn(%q) = %v, %t", text, g, ok)
	}
}

// isDrawn asks for this Desk, field by field.
func isDrawn(t *testing.T, text string, d impl.Desk) {
	t.Helper()
	g, ok := impl.Drawn(text)
	switch {
	case !ok:
		t.Fatalf("Drawn(%q) is false", text)
	case g.State.Width != d.State.Width || g.State.Next != d.State.Next || g.State.Tower.Dice != d.State.Tower.Dice:
		t.Fatalf("Drawn(%q) has Width %d, Next %d, Dice %d", text, g.State.Width, g.State.Next, g.State.Tower.Dice)
	case !slices.EqualFunc(g.State.Marks, d.State.Marks, sameMark):
		t.Fatalf("Drawn(%q) has the Marks %v, not %v", text, g.State.Marks, d.State.Marks)
	case !slices.Equal(g.Sessions, d.Sessions):
		t.Fatalf("Drawn(%q) has the Sessions %v, not %v", text, g.Sessions, d.Sessions)
	case len(g.State.Tower.Webs) != towerWebs:
		t.Fatalf("Drawn(%q) has %d Webs", text, len(g.State.Tower.Webs))
	}
	for n, w := range g.State.Tower.Webs {
		if want := d.State.Tower.Webs[n]; !sameWeb(w, want) {
			t.Fatalf("Drawn(%q) has the Web %d %v, not %v", text, n, w, want)
		}
	}
	if !sameDesk(g, d) {
		t.Fatalf("Drawn(%q) = %v, not %v", text, g, d)
	}
}

// draws asks for what the document's words have, and tells whether it is one.
func draws(t *testing.T, text string) bool {
	t.Helper()
	desks := drawnIn(text)
	switch len(desks) {
	case 0:
		notDrawn(t, text)
	case 1:
		isDrawn(t, text, desks[0])
	default:
		t.Fatalf("%q is the Picture of %v", text, desks)
	}
	return len(desks) == 1
}

// pictured asks for the Picture of a right Desk, and for the Desk of it.
func pictured(t *testing.T, d impl.Desk) string {
	t.Helper()
	isDesk(t, d)
	text := impl.Picture(d)
	if text != pictureIn(d) {
		t.Fatalf("Picture(%v) = %q, not %q", d, text, pictureIn(d))
	}
	isDrawn(t, text, d)
	return text
}

// inPieces asks for the pieces of a text: all but the last one as long as
// size, none empty, and all of them the text.
func inPieces(t *testing.T, text string, size int64) []string {
	t.Helper()
	list := impl.Pieces(text, size)
	if len(list) != (len(text)+int(size)-1)/int(size) || strings.Join(list, "") != text {
		t.Fatalf("Pieces(%q, %d) = %q", text, size, list)
	}
	for i, piece := range list {
		if i < len(list)-1 && len(piece) != int(size) || len(piece) == 0 || len(piece) > int(size) {
			t.Fatalf("Pieces(%q, %d) = %q", text, size, list)
		}
	}
	return list
}

// lessIsNone asks that of some of the pieces no Desk is drawn: not without the
// first one, the last one, or one between.
func lessIsNone(t *testing.T, pieces []string) {
	t.Helper()
	for _, at := range slices.Compact([]int{0, len(pieces) / 3, len(pieces) / 2, len(pieces) - 1}) {
		notDrawn(t, strings.Join(without(pieces, at), ""))
	}
}

// allSizes asks for the pieces by each of these sizes, for the Desk of them,
// and for none of less.
func allSizes(t *testing.T, d impl.Desk, sizes ...int64) {
	t.Helper()
	text := pictured(t, d)
	for _, size := range sizes {
		pieces := inPieces(t, text, size)
		isDrawn(t, strings.Join(pieces, ""), d)
		lessIsNone(t, pieces)
	}
	notDrawn(t, text[:len(text)-1])
	notDrawn(t, text[:len(text)/2])
	notDrawn(t, text[1:])
}

// sizesTo are all sizes from 1 up to most.
func sizesTo(most int64) []int64 { return risingIds(1, int(most)) }

// smallDesks have few lines each, so that what is near to their Pictures can
// be gone through: of each Width, with marks gone, in one to four webs, with
// links and without, and with Sessions.
func smallDesks() []impl.Desk {
	next, desks := walkOf(241), []impl.Desk{}
	for width := int64(1); width <= 4; width++ {
		desks = append(desks, emptyDesk(width))
		for count := 1; count <= 4; count++ {
			tower := towerBuilt(next, someMarks(next, count, int(width), 1000), count-1)
			state := stateOver(next, tower, width, count/2, 1+next(3))
			desks = append(desks, impl.Desk{State: state, Sessions: someSessions(next)})
		}
	}
	desks[0].Sessions = []impl.Session{{Client: 0, Seq: 1}}
	return append(desks, fewLined(), sessionLike())
}

// fewLined has three marks, one of them gone, in one, two and four webs.
func fewLined() impl.Desk {
	list := []impl.Mark{{Id: 1, At: []int64{3, -4}}, {Id: 4, At: []int64{0, 0}}, {Id: 8, At: []int64{1000, -1000}}}
	tower := impl.Tower{Dice: 5, Webs: []impl.Web{webOf(list, [2]int64{1, 4}, [2]int64{4, 8}), webOf(list[:2], [2]int64{1, 4}), webOf(list[1:2]), webOf(list[1:2])}}
	state := impl.State{Width: 2, Marks: []impl.Mark{list[0], list[2]}, Tower: tower, Next: 9}
	return copyDesk(impl.Desk{State: state, Sessions: []impl.Session{{Client: 0, Seq: 3, Reply: -1}, {Client: 7, Seq: 1000000, Reply: 8}}})
}

// sessionLike has lines of links that could be those of Sessions, and Sessions
// that could be those of links.
func sessionLike() impl.Desk {
	list := axisMarks(1, 0, 5, 6, 7, 8)
	tower := withWeb(emptyTower(77), 0, webOf(list, allPairs([]int64{1, 2, 3, 4})...))
	return copyDesk(impl.Desk{State: impl.State{Width: 1, Marks: list, Tower: tower, Next: 5}, Sessions: []impl.Session{{Client: 1, Seq: 2, Reply: 3}, {Client: 2, Seq: 3, Reply: 4}}})
}

// longDesk has a Picture longer than what is told in pieces: as many marks as
// there may be with the longest Ids, each linked to each in each web.
func longDesk() impl.Desk {
	list := marksOf(risingIds(impl.MaxId-impl.MaxMarks, impl.MaxMarks), -1000, 1000, -999, 7)
	w := webOf(list, allPairs(idsOfMarks(list))...)
	tower := impl.Tower{Dice: diceCount - 1, Webs: []impl.Web{w, w, w, w}}
	return copyDesk(impl.Desk{State: impl.State{Width: 4, Marks: list, Tower: tower, Next: impl.MaxId}, Sessions: eachClient(8)})
}

// nearTo are texts near to this one: at each place one byte changed, taken
// away, put in or doubled.
func nearTo(text string, do func(other string)) {
	for at := 0; at <= len(text); at++ {
		for _, b := range []string{" ", "\n", "0", "1", "9", "-", "+", "\x00", "\r", "k", "\xff"} {
			do(text[:at] + b + text[at:])
			if at < len(text) && text[at:at+1] != b {
				do(text[:at] + b + text[at+1:])
			}
		}
		if at < len(text) {
			do(text[:at] + text[at+1:])
			do(text[:at+1] + text[at:])
			do(text[:at] + string([]byte{text[at] ^ 1}) + text[at+1:])
			do(text[:at] + string([]byte{text[at] + 1}) + text[at+1:])
		}
	}
}

func TestCommandsOrdinary(t *testing.T) {
	for _, c := range []struct {
		command impl.Command
		text    string
	}{
		{keepBy(2, 1, 5), "2 1 keep 5"},
		{keepBy(0, 1, 0), "0 1 keep 0"},
		{keepBy(7, 1000000, -1000), "7 1000000 keep -1000"},
		{keepBy(3, 12, 4, -7), "3 12 keep 4 -7"},
		{keepBy(3, 12, 0, 0, 0), "3 12 keep 0 0 0"},
		{keepBy(1, 999999, 1000, -1000, 1000, -1000), "1 999999 keep 1000 -1000 1000 -1000"},
		{keepBy(6, 40, -1, 2, -3, 4), "6 40 keep -1 2 -3 4"},
		{goneBy(0, 7, 3), "0 7 gone 3"},
		{goneBy(0, 1, 1), "0 1 gone 1"},
		{goneBy(7, 1000000, 1000000), "7 1000000 gone 1000000"},
		{goneBy(5, 500, 60), "5 500 gone 60"},
	} {
		thereAndBack(t, c.command, c.text)
	}
}

func TestCommandsThereAndBack(t *testing.T) {
	next, texts, desks := walkOf(231), map[string]impl.Command{}, fewDesks()
	for client := int64(0); client <= 7; client++ {
		for _, seq := range []int64{1, 2, 9, 10, 99, 500, impl.MaxId - 1, impl.MaxId} {
			list := []impl.Command{goneBy(client, seq, 1), goneBy(client, seq, 9), goneBy(client, seq, 10), goneBy(client, seq, impl.MaxId-1), goneBy(client, seq, impl.MaxId)}
			for n := 1; n <= 4; n++ {
				for _, x := range []int64{-1000, -999, -100, -10, -1, 0, 1, 9, 10, 99, 100, 999, 1000} {
					at := slices.Repeat([]int64{x}, n)
					list = append(list, keepBy(client, seq, at...))
					other := slices.Clone(at)
					other[next(int64(n))] = next(2001) - 1000
					list = append(list, keepBy(client, seq, other...))
				}
			}
			list = append(list, rightCommands(next, desks[next(int64(len(desks)))].State, client, seq)...)
			for _, c := range list {
				text := showIn(c)
				thereAndBack(t, c, text)
				if other, is := texts[text]; is && !sameCommand(other, c) {
					t.Fatalf("%v and %v are both %q", c, other, text)
				}
				texts[text] = c
			}
		}
	}
}

// An empty list is as none at all.
func TestShowCommandOfEmptyList(t *testing.T) {
	shows(t, impl.Command{Client: 4, Seq: 5, Kind: impl.CmGone, Id: 6, At: []int64{}}, "4 5 gone 6")
}

func TestShowCommandWrong(t *testing.T) {
	list := []impl.Command{{}, {Kind: impl.CmKeep, At: []int64{5}}, {Kind: impl.CmGone, Id: 5}}
	for _, client := range noClients {
		list = append(list, keepBy(client, 1, 5), goneBy(client, 1, 5))
	}
	for _, seq := range noSeqs {
		list = append(list, keepBy(0, seq, 5), goneBy(7, seq, 5))
	}
	for client := int64(0); client <= 7; client++ {
		list = append(list, wrongCommands(client, 1)...)
		list = append(list, wrongCommands(client, impl.MaxId)...)
	}
	for _, c := range list {
		if g := impl.ShowCommand(c); g != "" {
			t.Fatalf("ShowCommand(%v) = %q", c, g)
		}
	}
}

func TestReadCommandWrong(t *testing.T) {
	for _, text := range []string{
		"", " ", "  ", "-", "\n", "0", "keep", "gone", "5", "1 2", "1 2 ", " 1 2", "1 keep", "keep 5", "gone 3", "2 1 5", "2 1 5 6",
		"2 1 keep", "2 1 keep ", "2 1 keep  ", "2 1 gone", "2 1 gone ", "2 1", "2 keep 5", "2 gone 5", "1 2 3 keep 5", "1 2 3 gone 5", "keep 2 1 5", "2 keep 1 5", "2 1 5 keep",
		"2  1 keep 5", "2 1  keep 5", "2 1 keep  5", "2 1 keep 5  6", "2 1  gone 5", "2 1 gone  5",
		" 2 1 keep 5", "2 1 keep 5 ", " 0 7 gone 3", "0 7 gone 3 ", "\t2 1 keep 5", "2\t1 keep 5", "2 1 keep\t5", "2 1 keep 5\t",
		"02 1 keep 5", "2 01 keep 5", "2 1 keep 05", "2 1 keep 00", "2 1 keep -0", "2 1 keep -05", "2 1 keep 1 02", "0 7 gone 03", "00 7 gone 3", "-0 7 gone 3", "0 07 gone 3", "0 7 gone 003",
		"+2 1 keep 5", "2 +1 keep 5", "2 1 keep +5", "2 1 keep 1 +5", "0 7 gone +3", "+0 7 gone 3", "2 1 keep +0",
		"2 1 keep -", "2 1 keep --5", "2 1 keep 5-", "2 1 keep - 5", "2 1 keep 1 -", "2 1 gone -", "- 1 keep 5", "2 - keep 5",
		"2 1000000000 keep 5", "2 1 keep 1000000000", "2 1 keep -1000000000", "0 7 gone 1000000000", "0 7 gone 0000000003", "2 1 keep 0000000005", "1000000000 7 gone 3", "2 1 keep 9999999999999999999999", "2 1 keep -9999999999999999999999", "2 1 keep 18446744073709551621",
		"2 1 keeps 5", "2 1 kee 5", "2 1 Keep 5", "2 1 KEEP 5", "2 1 go 5", "2 1 Gone 5", "2 1 gones 5", "2 1 drop 5", "2 1 1 5", "2 1 k 5", "2 1 keep5", "2 1 gone5", "2 1keep 5", "2 1 keepgone 5", "2 1 keep keep 5", "2 1 keep gone 5", "2 1 gone keep 5",
		"2 1 keep 1 2 3 4 5", "2 1 keep 0 0 0 0 0", "2 1 keep 1 2 3 4 5 6", "0 7 gone 3 4", "0 7 gone 3 3", "0 7 gone 3 keep 5", "2 1 keep 5 gone", "2 1 keep 5 gone 3", "2 1 keep 5 -",
		"2 1 keep 5\n", "0 7 gone 3\n", "2 1 keep 5\r", "2 1 keep 5\n2 2 keep 5", "\n2 1 keep 5", "2 1 keep\n5", "2\n1 keep 5", "2 1 keep 5\x00", "\x002 1 keep 5", "2 1 keep 5 \n",
		"8 1 keep 5", "-1 1 keep 5", "10 1 keep 5", "999999999 1 keep 5", "8 1 gone 5", "-1 1 gone 5", "-8 1 gone 5",
		"2 0 keep 5", "2 -1 keep 5", "2 1000001 keep 5", "2 999999999 keep 5", "2 0 gone 5", "2 -1 gone 5", "2 1000001 gone 5",
		"2 1 keep 1001", "2 1 keep -1001", "2 1 keep 0 1001", "2 1 keep 0 0 0 -1001", "2 1 keep 999999999", "2 1 keep -999999999",
		"0 7 gone 0", "0 7 gone -3", "0 7 gone -1", "0 7 gone 1000001", "0 7 gone 999999999",
		"2 1 keep 5.0", "2 1 keep 0x5", "2 1 keep 1e2", "2 1 keep 1_0", "2 1 keep \u0665", "2 1 keep\u00a05", "2 1 keep 5,6", "0x2 1 keep 5",
	} {
		notRead(t, text)
		if _, is := readIn(text); is {
			t.Fatalf("%q is one", text)
		}
	}
	for _, word := range []string{" ", "-", "5", "5 ", " 5", "keep ", "2 1 keep 5 "} {
		notRead(t, strings.Repeat(word, 100000))
	}
	notRead(t, "2 1 keep "+strings.Repeat("5", 100000))
	notRead(t, "2 1 keep"+strings.Repeat(" 5", 100000))
}

// Texts near to right ones: some of them are, most are not.
func TestReadCommandByItsWords(t *testing.T) {
	many := map[bool]int{}
	for _, text := range []string{
		"2 1 keep 5", "0 7 gone 3", "7 1000000 keep -1000 1000", "3 10 keep 1 2 3", "5 999999 keep -1 0 10 -100", "1 99 gone 1000000", "4 100 gone 999999", "0 1 keep 0",
	} {
		if !reads(t, text) {
			t.Fatalf("%q is none", text)
		}
		nearTo(text, func(other string) {
			is := reads(t, other)
			many[is]++
			if is {
				nearTo(other, func(more string) { many[reads(t, more)]++ })
			}
		})
	}
	if min(many[true], many[false]) < 1000 {
		t.Errorf("%d are right, %d not", many[true], many[false])
	}
}

// Words of all kinds, in any order and number.
func TestReadCommandOfAnyWords(t *testing.T) {
	next, many := walkOf(232), map[bool]int{}
	words := []string{"0", "1", "2", "7", "8", "-1", "5", "1000", "-1000", "1001", "1000000", "1000001", "keep", "gone", "keep", "gone", "-", "", "01", "-0", "+1", "x"}
	for range 300000 {
		text := []string{}
		for range 2 + next(7) {
			text = append(text, words[next(int64(len(words)))])
		}
		if next(3) > 0 {
			text[0], text[1] = words[next(4)], words[1+next(10)]
		}
		if next(3) > 0 && len(text) > 2 {
			text[2] = words[12+next(2)]
		}
		many[reads(t, strings.Join(text, " "))]++
	}
	if min(many[true], many[false]) < 5000 {
		t.Errorf("%d are right, %d not", many[true], many[false])
	}
}

func TestCheckOrdinary(t *testing.T) {
	for _, c := range []struct {
		text string
		want int64
	}{
		{"", 9}, {"\x00", 369}, {"\n", 379}, {"A", 434}, {"a", 466}, {"\xff", 624}, {"ab", 19204}, {"ba", 19244}, {"abc", 787463}, {"hello", 754892},
		{"1 1 1 1\n", 258710}, {"1 2 388 5\n1 1 2 5\n-\n-\n2 1 1\n", 643392},
		{strings.Repeat("a", 1000), 418282}, {strings.Repeat("\x00", 1000), 106311}, {strings.Repeat("a", 100000), 656933},
	} {
		if g := impl.Check(c.text); g != c.want || checkIn(c.text) != c.want {
			t.Errorf("Check(%.20q) = %d, not %d", c.text, g, c.want)
		}
	}
	for b := range 256 {
		if g := impl.Check(string([]byte{byte(b)})); g != int64(369+b) {
			t.Errorf("Check of the byte %d is %d", b, g)
		}
	}
}

// someText is drawn, of bytes of all kinds.
func someText(next func(int64) int64, long int) string {
	bytes := make([]byte, long)
	for i := range bytes {
		bytes[i] = byte(next(256))
	}
	return string(bytes)
}

func TestCheckByItsWords(t *testing.T) {
	next := walkOf(233)
	for _, long := range []int{1, 2, 3, 4, 5, 10, 99, 1000, 4096, 99999, 100000, 100001, 1000000} {
		for range 3 {
			text := someText(next, long)
			g := impl.Check(text)
			if g != checkIn(text) || g < 0 || g >= checkCount {
				t.Fatalf("Check of %d bytes is %d, not %d", long, g, checkIn(text))
			}
			at := next(int64(long))
			other := text[:at] + string([]byte{text[at] + 1 + byte(next(255))}) + text[at+1:]
			if impl.Check(other) == g {
				t.Fatalf("with the byte %d of %d changed it is %d too", at, long, g)
			}
		}
	}
}

func TestPiecesOrdinary(t *testing.T) {
	for _, c := range []struct {
		text string
		size int64
		want []string
	}{
		{"abcde", 1, []string{"a", "b", "c", "d", "e"}}, {"abcde", 2, []string{"ab", "cd", "e"}}, {"abcde", 3, []string{"abc", "de"}}, {"abcde", 4, []string{"abcd", "e"}},
		{"abcde", 5, []string{"abcde"}}, {"abcde", 6, []string{"abcde"}}, {"abcde", 1000, []string{"abcde"}},
		{"abcdef", 2, []string{"ab", "cd", "ef"}}, {"abcdef", 3, []string{"abc", "def"}}, {"a", 1, []string{"a"}}, {"a", 1000, []string{"a"}},
		{"", 1, nil}, {"", 40, nil}, {"", 1000, nil},
		{"a\nb\x00\xff\n", 2, []string{"a\n", "b\x00", "\xff\n"}}, {"\u00e9\u00e9", 3, []string{"\xc3\xa9\xc3", "\xa9"}},
	} {
		if g := impl.Pieces(c.text, c.size); !slices.Equal(g, c.want) {
			t.Errorf("Pieces(%q, %d) = %q, not %q", c.text, c.size, g, c.want)
		}
	}
}

func TestPiecesOfEachSize(t *testing.T) {
	next := walkOf(234)
	for _, long := range []int{1, 2, 39, 40, 41, 500, 999, 1000, 1001, 2000, 5040} {
		text := someText(next, long)
		for size := int64(1); size <= mostPiece; size++ {
			inPieces(t, text, size)
		}
	}
	most := someText(next, mostPieced)
	for _, size := range []int64{1, 2, 3, 40, 999, 1000} {
		inPieces(t, most, size)
		inPieces(t, most[1:], size)
	}
}

func TestPiecesWrong(t *testing.T) {
	next := walkOf(235)
	for _, long := range []int{0, 1, 40, 1000, 1001, mostPieced} {
		text := someText(next, long)
		for _, size := range noSizes {
			if g := impl.Pieces(text, size); len(g) != 0 {
				t.Errorf("Pieces of %d bytes by %d are %d", long, size, len(g))
			}
		}
	}
	for _, long := range []int{mostPieced + 1, mostPieced + 2, 2 * mostPieced, 1 << 21} {
		text := someText(next, long)
		for _, size := range append([]int64{1, 40, mostPiece}, noSizes...) {
			if g := impl.Pieces(text, size); len(g) != 0 {
				t.Errorf("Pieces of %d bytes by %d are %d", long, size, len(g))
			}
		}
	}
}

// The Pictures as one writes them by hand.
func TestPictureOrdinary(t *testing.T) {
	sessions := emptyDesk(1)
	sessions.Sessions = []impl.Session{{Client: 0, Seq: 1}, {Client: 3, Seq: 2, Reply: -1}, {Client: 7, Seq: 1000000, Reply: 1000000}}
	alone := impl.Desk{State: impl.State{Width: 3, Tower: withWeb(emptyTower(0), 0, webOf(marksOf([]int64{1}, -1000, 0, 1000))), Next: 2}}
	list := []impl.Mark{{Id: 1, At: []int64{1, 2, 3, 4}}, {Id: 2, At: []int64{-1, -2, -3, -4}}}
	pair := impl.Desk{State: impl.State{Width: 4, Marks: list, Tower: withWeb(emptyTower(1000002), 0, webOf(list, [2]int64{1, 2})), Next: 3}}
	pair.Sessions = []impl.Session{{Client: 5, Seq: 1, Reply: 2}}
	for _, c := range []struct {
		desk impl.Desk
		text string
	}{
		{emptyDesk(1), "1 1 1 1\n258710\n"}, {emptyDesk(2), "2 1 1 1\n843460\n"}, {emptyDesk(3), "3 1 1 1\n428227\n"}, {emptyDesk(4), "4 1 1 1\n12994\n"},
		{sessions, "1 1 1 4\n0 1 0\n3 2 -1\n7 1000000 1000000\n669982\n"},
		{alone, "3 2 0 3\n1 0 1 -1000 0 1000\n-\n353144\n"},
		{pair, "4 3 1000002 6\n1 1 1 1 2 3 4\n2 1 1 -1 -2 -3 -4\n2\n1\n5 1 2\n451275\n"},
		{fewLined(), "2 9 5 13\n1 1 2 3 -4\n4 0 4 0 0\n8 1 1 1000 -1000\n4\n1 8\n4\n4\n1\n-\n-\n0 3 -1\n7 1000000 8\n746512\n"},
	} {
		if g := pictured(t, c.desk); g != c.text {
			t.Errorf("Picture(%v) = %q, not %q", c.desk, g, c.text)
		}
	}
}

func TestPictureOfNewDesks(t *testing.T) {
	for width := int64(1); width <= 4; width++ {
		d, _ := impl.NewDesk(width)
		allSizes(t, d, sizesTo(mostPiece)...)
	}
}

// Promise 18: of Desks that Commands of one Client and of all eight have left
// behind, one after the other.
func TestDrawnIsTheDeskGrown(t *testing.T) {
	next := walkOf(236)
	for width := int64(1); width <= 4; width++ {
		for _, many := range []int64{1, 8} {
			d, _ := impl.NewDesk(width)
			for i, c := range script(next, width, 100, many) {
				d, _ = impl.Applied(d, c)
				allSizes(t, d, 1, 40, 1+next(mostPiece))
				if i%50 == 49 {
					allSizes(t, d, sizesTo(mostPiece)...)
				}
			}
			if len(d.Sessions) != int(many) || len(d.State.Tower.Webs[0].Marks) < 20 {
				t.Fatalf("it has grown to %v", d)
			}
		}
	}
}

// Promise 18: of right Desks of any kind. Each of these has a Picture of its
// own.
func TestDrawnIsTheDesk(t *testing.T) {
	next, pictures, heights := walkOf(237), map[string]impl.Desk{}, [towerWebs + 1]int{}
	for _, d := range slices.Concat(manyDesks(), fewDesks(), smallDesks()) {
		allSizes(t, d, 1, 7, 40, mostPiece, 1+next(mostPiece))
		text := impl.Picture(d)
		if other, is := pictures[text]; is && !sameDesk(other, d) {
			t.Fatalf("%v and %v have one Picture", d, other)
		}
		pictures[text] = d
		heights[peakOf(d.State.Tower)+1]++
	}
	if slices.Min(heights[:]) < 5 {
		t.Errorf("%v have marks in none to four webs", heights)
	}
}

func TestDrawnOfPiecesOfEachSize(t *testing.T) {
	for _, d := range smallDesks() {
		allSizes(t, d, sizesTo(mostPiece)...)
	}
	for i, d := range manyDesks() {
		if i%40 == 0 {
			allSizes(t, d, sizesTo(mostPiece)...)
		}
	}
}

// Each text is the Picture of one Desk at most, however many of its lines one
// takes to be of marks.
func TestPictureIsOfOneDesk(t *testing.T) {
	for _, d := range slices.Concat(fewDesks(), smallDesks()) {
		if !draws(t, impl.Picture(d)) {
			t.Fatalf("%q is of no Desk", impl.Picture(d))
		}
	}
}

// Lines of links as long as those of marks and of Sessions, in each Width.
func TestPictureOfLinesAsLong(t *testing.T) {
	for width := 1; width <= 4; width++ {
		for count := 2; count <= 9; count++ {
			for _, first := range []int64{1, 2, 5} {
				list := marksOf(risingIds(first, count), slices.Repeat([]int64{1}, width)...)
				w := webOf(list, allPairs(idsOfMarks(list))...)
				for _, webs := range [][]impl.Web{{w, {}, {}, {}}, {w, w, {}, {}}, {w, w, w, w}, {w, webOf(list[1:]), webOf(list[1:]), {}}} {
					tower := impl.Tower{Dice: 1, Webs: webs}
					for _, sessions := range [][]impl.Session{nil, {{Client: 1, Seq: 2, Reply: 3}}, {{Client: 0, Seq: 1, Reply: 1}, {Client: 2, Seq: 3, Reply: 4}}} {
						d := copyDesk(impl.Desk{State: impl.State{Width: int64(width), Marks: list, Tower: tower, Next: 20}, Sessions: sessions})
						if !draws(t, pictured(t, d)) {
							t.Fatalf("%q is of no Desk", impl.Picture(d))
						}
					}
				}
			}
		}
	}
}

// A Picture may be longer than what is told in pieces; it is one all the same.
func TestPictureTooLongForPieces(t *testing.T) {
	d := longDesk()
	text := pictured(t, d)
	if len(text) <= mostPieced {
		t.Fatalf("it has only %d bytes", len(text))
	}
	for _, size := range []int64{1, 40, 1000} {
		if g := impl.Pieces(text, size); len(g) != 0 {
			t.Errorf("by %d they are %d", size, len(g))
		}
	}
	for _, at := range []int{1, len(text) / 2, mostPieced, len(text) - 8, len(text) - 1} {
		notDrawn(t, text[:at])
		notDrawn(t, text[at:])
		notDrawn(t, text[:at]+text[at+1:])
	}
}

// Numbers of all fields at both of their ends.
func TestPictureAtTheEdges(t *testing.T) {
	for width := 1; width <= 4; width++ {
		for _, x := range []int64{-1000, -1, 0, 1, 1000} {
			for _, ids := range [][]int64{{1}, {impl.MaxId - 1}, {1, impl.MaxId - 1}, {7, 8, 9, 10, 11, 99, 100, 101}} {
				list := marksOf(ids, slices.Repeat([]int64{x}, width)...)
				for _, dice := range []int64{0, 1, 9, 10, diceCount - 1} {
					tower := impl.Tower{Dice: dice, Webs: []impl.Web{webOf(list, pathPairs(ids)...), webOf(list), webOf(list[:1]), webOf(list[:1])}}
					d := impl.Desk{State: impl.State{Width: int64(width), Tower: tower, Next: impl.MaxId}}
					for _, last := range []int{0, 1, len(list)} {
						d.State.Marks = list[:last]
						allSizes(t, copyDesk(d), 1, 40)
					}
					for _, s := range []impl.Session{{Client: 0, Seq: 1, Reply: -1}, {Client: 7, Seq: impl.MaxId, Reply: impl.MaxId}, {Client: 7, Seq: 1}} {
						d.Sessions = []impl.Session{s}
						allSizes(t, copyDesk(d), 1, 40)
					}
				}
			}
		}
	}
}

func TestPictureWrong(t *testing.T) {
	next, wrong := walkOf(238), []impl.Desk{{}, {Sessions: eachClient(3)}, {State: impl.State{Width: 1, Next: 1}}, {State: impl.State{Width: 1, Tower: impl.NewTower()}}, {State: impl.State{Tower: impl.NewTower(), Next: 1}}}
	for _, d := range fewDesks() {
		for _, sessions := range [][]impl.Session{eachClient(9), {{Client: 1, Seq: 0}}, {{Client: 1, Seq: 1, Reply: -2}}, {{Client: 1, Seq: 1}, {Client: 1, Seq: 2}}, {{Client: 8, Seq: 1}}, {{Client: -1, Seq: 1}}} {
			wrong = append(wrong, impl.Desk{State: d.State, Sessions: sessions})
		}
		for _, number := range noNexts {
			other := copyDesk(d)
			other.State.Next = number
			wrong = append(wrong, other)
		}
		for _, dice := range noDice {
			other := copyDesk(d)
			other.State.Tower.Dice = dice
			wrong = append(wrong, other)
		}
		other := copyDesk(d)
		other.State.Tower.Webs = other.State.Tower.Webs[:3]
		wrong = append(wrong, other)
	}
	for range 2000 {
		d := impl.Desk{State: disturbedState(next, stateGrown(next, 1+next(4), int(next(5)), 9)), Sessions: someSessions(next)}
		if !deskIn(d) {
			wrong = append(wrong, d)
		}
	}
	for _, d := range wrong {
		if g := impl.Picture(d); g != "" {
			t.Fatalf("Picture(%v) = %q", d, g)
		}
	}
	if len(wrong) < 1000 {
		t.Errorf("only %d were wrong", len(wrong))
	}
}

func TestDrawnOfNoPicture(t *testing.T) {
	for _, text := range []string{
		"", "\n", "\n\n", " ", "-", "-\n", "9", "9\n", "0\n", "x\n", "\x00", "1 1 1 1", "1 1 1 1\n", "258710\n", "1 1 1 1\n258710", "1 1 1 1 258710\n", "1 1 1 0\n258710\n",
		"1 1 1 1\n258711\n", "1 1 1 1\n0258710\n", "1 1 1 1\n 258710\n", "1 1 1 1\n258710 \n", "1 1 1 1\n258710\n\n", "1 1 1 1\n258710\n258710\n", "1 1 1 1\n258710\n1 1 1 1\n258710\n", "1 1 1 1\r\n258710\r\n",
		"\n1 1 1 1\n258710\n", " 1 1 1 1\n258710\n", "1 1 1\n258710\n", "1 1 1 1 1\n258710\n", "1 1\n", "a b c d\n258710\n", "1 1 1 -\n258710\n", "2 1 keep 5", "2 1 keep 5\n",
	} {
		notDrawn(t, text)
	}
	for _, line := range []string{"\n", "-\n", "1\n", "1 1 1\n", "1 1 1 1\n", "1 1 4 1\n", "5 1 4 1 2\n", "1 2 3 4 5 6 7\n", "1 1 1 1 ", "1", "-"} {
		notDrawn(t, strings.Repeat(line, 20000))
		notDrawn(t, "1 1 1 20001\n"+strings.Repeat(line, 20000))
	}
	next := walkOf(239)
	for range 2000 {
		notDrawn(t, someText(next, int(next(60))))
	}
	for range 20000 {
		lines := []string{}
		for range 1 + next(6) {
			row := make([]int64, 1+next(5))
			for i := range row {
				row[i] = next(5) - next(2)
			}
			lines = append(lines, blanks(row...))
		}
		draws(t, signed(lines))
	}
}

// Of less than the Picture no Desk is drawn: of all its beginnings and ends,
// and of all without something between.
func TestDrawnOfLess(t *testing.T) {
	for _, d := range smallDesks() {
		text := pictured(t, d)
		for at := range len(text) {
			notDrawn(t, text[:at])
			if at > 0 {
				notDrawn(t, text[at:])
				for _, end := range []int{at + 1, at + 2, at + 7, at + 40, len(text) - 1} {
					if end > at && end <= len(text) {
						notDrawn(t, text[:at]+text[end:])
					}
				}
			}
		}
	}
}

// Nor of pieces that are out of order, or stand there twice.
func TestDrawnOfPiecesOtherwise(t *testing.T) {
	for _, d := range smallDesks() {
		text := pictured(t, d)
		for _, size := range []int64{1, 2, 5, 8, 40} {
			pieces := inPieces(t, text, size)
			for i := range pieces {
				notDrawn(t, strings.Join(without(pieces, i), ""))
				twice := strings.Join(slices.Insert(slices.Clone(pieces), i, pieces[i]), "")
				notDrawn(t, twice)
				if i > 0 && pieces[i] != pieces[i-1] {
					other := slices.Clone(pieces)
					other[i], other[i-1] = other[i-1], other[i]
					notDrawn(t, strings.Join(other, ""))
				}
			}
			notDrawn(t, text+text)
			notDrawn(t, strings.Join(slices.Concat(pieces, pieces[:1]), ""))
		}
	}
}

// With one byte changed, taken away, put in or doubled it is no Picture.
func TestDrawnWithOneByteOther(t *testing.T) {
	for _, d := range smallDesks() {
		nearTo(pictured(t, d), func(other string) { notDrawn(t, other) })
	}
}

// The same with the Check told anew, of the lines as they are and with their
// number told anew: now and then it is another Desk.
func TestDrawnWithOneByteOtherSigned(t *testing.T) {
	many := map[bool]int{}
	for _, d := range smallDesks() {
		text := pictured(t, d)
		if len(text) > 110 {
			continue
		}
		nearTo(strings.Join(linesOf(text), "\n"), func(other string) {
			lines := strings.Split(other, "\n")
			many[draws(t, signed(lines))]++
			many[draws(t, signed(recounted(lines)))]++
		})
	}
	if min(many[true], many[false]) < 500 {
		t.Errorf("%d are right, %d not", many[true], many[false])
	}
}

// A line left out, doubled, or exchanged with another one.
func TestDrawnWithOtherLines(t *testing.T) {
	for _, d := range append(smallDesks(), fewDesks()[2], fewDesks()[6]) {
		lines := linesOf(pictured(t, d))
		for i := range lines {
			left, doubled := without(lines, i), slices.Insert(slices.Clone(lines), i, lines[i])
			notDrawn(t, signed(left))
			notDrawn(t, signed(doubled))
			if i > 0 {
				draws(t, signed(recounted(left)))
				draws(t, signed(recounted(doubled)))
			}
			for j := range i {
				other := slices.Clone(lines)
				other[i], other[j] = other[j], other[i]
				if lines[i] == lines[j] {
					isDrawn(t, signed(other), d)
				} else {
					notDrawn(t, signed(other))
				}
			}
		}
		for _, more := range []string{"", "-", "0", "1", "1 1 1", "7 1 1", "7 1000000 1000000", "1 1 1 1", "9 1 1 1", "60 1 1 1 1", "60 1 1 1 1 1", "60 1 1 1 1 1 1", "2", "1 2"} {
			for at := range len(lines) + 1 {
				other := slices.Insert(slices.Clone(lines), at, more)
				notDrawn(t, signed(other))
				if at > 0 {
					draws(t, signed(recounted(other)))
				}
			}
			notDrawn(t, impl.Picture(d)+more+"\n")
			if more != "" {
				notDrawn(t, impl.Picture(d)+more)
			}
		}
	}
}

// Another number of lines, another Check, and no Check at all.
func TestDrawnWithOtherNumbers(t *testing.T) {
	for _, d := range slices.Concat(smallDesks(), fewDesks()) {
		text := pictured(t, d)
		lines := linesOf(text)
		many, check := int64(len(lines)), checkIn(strings.Join(lines, "\n")+"\n")
		for _, number := range []int64{0, 1, -1, many - 1, many + 1, many - 2, many + 2, -many, 10 * many, many + 1<<32, least, greatest, 999999999, 1000000000} {
			if number != many {
				other := slices.Clone(lines)
				other[0] = blanks(d.State.Width, d.State.Next, d.State.Tower.Dice, number)
				notDrawn(t, signed(other))
			}
		}
		ahead := strings.Join(lines, "\n") + "\n"
		for _, number := range []int64{0, 9, -1, check - 1, check + 1, -check, check + checkCount, check - checkCount, 999999999, least, greatest} {
			if number != check {
				notDrawn(t, ahead+blanks(number)+"\n")
			}
		}
		for _, end := range []string{"", "\n", "-\n", "x\n", "+" + blanks(check) + "\n", "0" + blanks(check) + "\n", " " + blanks(check) + "\n", blanks(check) + " \n", blanks(check), blanks(check) + "\r\n", blanks(check, check) + "\n", blanks(check) + "\n" + blanks(check) + "\n", blanks(check) + "\n\x00", blanks(check) + "\nx"} {
			notDrawn(t, ahead+end)
		}
	}
}

// eachWord puts other words in the stead of each one of the lines, or beside
// it.
func eachWord(lines []string, do func(other []string)) {
	for i, line := range lines {
		words := strings.Split(line, " ")
		for j, word := range words {
			n := told(word)[0]
			changed := []string{
				blanks(n + 1), blanks(n - 1), blanks(-n), "0", "1", "2", "4", "5", "-1", "-", "", "1000", "1001", "-1001", "1000000", "1000001", "1000002", "1000003", "999999999", "1000000000",
				"-0", "0" + word, "+" + word, "00", word + "0", word + word, word + ".0", word + "\t", "\r", "x", word + " ", " " + word, word + " " + word, word + " 0", "1 " + word, "9223372036854775808",
			}
			for _, to := range changed {
				other := slices.Clone(words)
				other[j] = to
				all := slices.Clone(lines)
				all[i] = strings.Join(other, " ")
				do(all)
			}
			if len(words) > 1 {
				all := slices.Clone(lines)
				all[i] = strings.Join(without(words, j), " ")
				do(all)
			}
		}
	}
}

// Well-formed texts with a right Check, of Desks that are not right or are
// written otherwise; some are other Desks.
func TestDrawnWithOtherWords(t *testing.T) {
	many := map[bool]int{}
	for _, d := range smallDesks() {
		eachWord(linesOf(pictured(t, d)), func(other []string) { many[draws(t, signed(other))]++ })
	}
	if min(many[true], many[false]) < 300 {
		t.Errorf("%d are right, %d not", many[true], many[false])
	}
}

// Every line written otherwise than Picture writes it.
func TestDrawnWrittenOtherwise(t *testing.T) {
	for _, d := range slices.Concat(smallDesks(), fewDesks()) {
		lines := linesOf(pictured(t, d))
		for i, line := range lines {
			for _, to := range []string{
				" " + line, line + " ", line + "\t", line + "\r", "\t" + line, "0" + line, "+" + line, "-" + line, "- " + line, line + " -", line + "-", "", "-0", strings.ReplaceAll(line, " ", "  "), strings.ReplaceAll(line, " ", "\t"), strings.ReplaceAll(line, " ", " 0"), strings.ReplaceAll(line, " ", " +"), strings.ReplaceAll(line, "-", "--"), strings.ReplaceAll(line, " ", "\n"), line + "\x00", line + "\n",
			} {
				if to != line {
					other := slices.Clone(lines)
					other[i] = to
					notDrawn(t, signed(other))
				}
			}
		}
		notDrawn(t, strings.TrimSuffix(signed(lines), "\n"))
		notDrawn(t, strings.ReplaceAll(signed(lines), "\n", "\r\n"))
	}
}

// Texts as Picture would write them of Desks that are not right.
func TestDrawnOfWrongDesks(t *testing.T) {
	next, wrong, right := walkOf(240), 0, 0
	ask := func(d impl.Desk) {
		if len(d.State.Tower.Webs) != towerWebs {
			return
		}
		if draws(t, signed(aheadIn(d))) {
			right++
		} else {
			wrong++
		}
	}
	for range 3000 {
		d := impl.Desk{State: disturbedState(next, stateGrown(next, 1+next(4), int(next(6)), 9)), Sessions: someSessions(next)}
		if next(4) == 0 && len(d.Sessions) > 0 {
			at := next(int64(len(d.Sessions)))
			d.Sessions[at] = impl.Session{Client: next(10) - 1, Seq: next(3), Reply: next(4) - 2}
		}
		ask(d)
	}
	if wrong < 500 || right < 500 {
		t.Errorf("%d right, %d wrong", right, wrong)
	}
	for _, d := range smallDesks() {
		for _, number := range slices.Concat(noNexts, noWidths, noDice) {
			for _, other := range []impl.State{
				{Width: number, Marks: d.State.Marks, Tower: d.State.Tower, Next: d.State.Next}, {Width: d.State.Width, Marks: d.State.Marks, Tower: d.State.Tower, Next: number},
				{Width: d.State.Width, Marks: d.State.Marks, Tower: impl.Tower{Dice: number, Webs: d.State.Tower.Webs}, Next: d.State.Next},
			} {
				ask(impl.Desk{State: other, Sessions: d.Sessions})
			}
		}
		for _, sessions := range [][]impl.Session{eachClient(9), {{Client: 1, Seq: 0}}, {{Client: 1, Seq: 1, Reply: -2}}, {{Client: 1, Seq: 1}, {Client: 1, Seq: 2}}, {{Client: 8, Seq: 1}}, {{Client: 5, Seq: 1}, {Client: 2, Seq: 1}}} {
			notDrawn(t, signed(aheadIn(impl.Desk{State: d.State, Sessions: sessions})))
		}
		for n, w := range d.State.Tower.Webs {
			for _, to := range wrongLinks(w) {
				if len(to.Links) == len(w.Marks) {
					other := copyDesk(d)
					other.State.Tower.Webs[n] = to
					ask(other)
				}
			}
		}
	}
	// One more mark than there may be.
	list := marksOf(risingIds(1, impl.MaxMarks+1), 5)
	over := impl.Desk{State: impl.State{Width: 1, Marks: list, Tower: withWeb(emptyTower(1), 0, webOf(list)), Next: 100}}
	notDrawn(t, signed(aheadIn(over)))
	over.State.Marks = nil
	notDrawn(t, signed(aheadIn(over)))
}

// The numbers of marks, of webs and of what is in Marks, one by one.
func TestDrawnOfMarksOtherwise(t *testing.T) {
	d := fewLined()
	lines := linesOf(pictured(t, d))
	for _, c := range []struct {
		line int
		to   string
	}{
		{1, "1 2 2 3 -4"}, {1, "1 -1 2 3 -4"}, {1, "1 1 0 3 -4"}, {1, "1 1 5 3 -4"}, {1, "1 1 -1 3 -4"}, {1, "1 1 1 3 -4"}, {1, "1 1 3 3 -4"}, {1, "1 1 999999999 3 -4"}, {1, "1 1 2 3"}, {1, "1 1 2"}, {1, "1 1 2 3 -4 5"}, {1, "1 1 2 3 -1001"}, {1, "1 1 2 1001 0"}, {1, "0 1 2 3 -4"}, {1, "-1 1 2 3 -4"}, {1, "-"}, {1, ""},
		{2, "4 0 4 0"}, {2, "1 0 4 0 0"}, {2, "8 0 4 0 0"}, {2, "9 0 4 0 0"}, {2, "4 0 3 0 0"}, {2, "4 0 5 0 0"},
		{3, "9 1 1 1000 -1000"}, {3, "4 1 1 1000 -1000"}, {3, "1000000 1 1 1000 -1000"}, {3, "8 1 1 1000 -1001"},
		{4, "-"}, {4, "1"}, {4, "8"}, {4, "4 8"}, {4, "4 4"}, {4, "5"}, {5, "8 1"}, {5, "1"}, {5, "1 4 8"}, {5, "-"}, {6, "-"}, {6, "1 4"}, {9, "1"}, {9, "4"}, {10, "4"}, {10, "0"},
		{11, "0 3"}, {11, "0 3 -1 0"}, {11, "0 3 -2"}, {11, "0 0 -1"}, {11, "7 3 -1"}, {11, "8 3 -1"}, {11, "-1 3 -1"}, {11, "0 1000001 -1"}, {11, "0 3 1000001"}, {12, "0 1000000 8"}, {12, "-"}, {12, "7"},
		{0, "1 9 5 13"}, {0, "3 9 5 13"}, {0, "0 9 5 13"}, {0, "5 9 5 13"}, {0, "2 8 5 13"}, {0, "2 0 5 13"}, {0, "2 1000001 5 13"}, {0, "2 9 -1 13"}, {0, "2 9 1000003 13"}, {0, "2 9 5 12"}, {0, "2 9 5 14"}, {0, "2 9 5"}, {0, "2 9 5 13 0"}, {0, "-"}, {0, ""},
	} {
		other := slices.Clone(lines)
		other[c.line] = c.to
		notDrawn(t, signed(other))
	}
	for _, c := range []struct {
		line int
		to   string
	}{{0, "2 1000000 5 13"}, {0, "2 10 0 13"}, {0, "2 9 1000002 13"}, {1, "1 0 2 3 -4"}, {1, "1 1 2 -1000 1000"}, {2, "4 1 4 0 0"}, {11, "1 3 -1"}, {11, "6 1000000 1000000"}, {11, "0 1 0"}, {12, "1 1 -1"}} {
		other := slices.Clone(lines)
		other[c.line] = c.to
		if !draws(t, signed(other)) {
			t.Errorf("with %q it is none", c.to)
		}
	}
}

// journalStays asks all functions, writes over what they answer, and looks
// whether an argument, or the room behind it, has changed.
func journalStays(t *testing.T, d impl.Desk, c impl.Command) {
	t.Helper()
	own, look := roomyDesk(d)
	list, lookList := roomyCommands([]impl.Command{c})
	kept, keptList := look(), lookList()
	text, shown := impl.Picture(own), impl.ShowCommand(list[0])
	g, _ := impl.Drawn(text)
	spoilDesk(g)
	read, _ := impl.ReadCommand(shown)
	spoilCommands([]impl.Command{read})
	if !slices.Equal(look(), kept) || !slices.Equal(lookList(), keptList) {
		t.Fatalf("%v, %v became %v, %v", d, c, own, list)
	}
	if impl.Picture(own) != text || impl.ShowCommand(list[0]) != shown {
		t.Fatalf("%v, %v are told otherwise", own, list)
	}
}

func TestJournalArgumentsStay(t *testing.T) {
	next := walkOf(242)
	for _, d := range slices.Concat(manyDesks(), fewDesks(), smallDesks()) {
		journalStays(t, d, rightCommands(next, d.State, next(8), 1+next(impl.MaxId))[next(3)])
		wrong := copyDesk(d)
		wrong.State.Next = 0
		journalStays(t, wrong, goneBy(0, 1, 1))
		wrong = copyDesk(d)
		wrong.Sessions = append(wrong.Sessions, impl.Session{Client: 8, Seq: 1})
		journalStays(t, wrong, keepBy(next(8), 1, pointOf(next, 4, 1000)...))
	}
	for i, c := range wrongCommands(3, 1) {
		if i%3 == 0 {
			journalStays(t, fewLined(), c)
		}
	}
}

// What is written over one answer changes no other one, and no later one.
func TestJournalAnswersAreNew(t *testing.T) {
	for _, d := range slices.Concat(fewDesks(), smallDesks()) {
		text := impl.Picture(d)
		g, _ := impl.Drawn(text)
		for range 2 {
			other, _ := impl.Drawn(text)
			spoilDesk(other)
		}
		if !sameDesk(g, d) {
			t.Fatalf("Drawn(%q) became %v", text, g)
		}
		isDrawn(t, text, d)
	}
	for _, text := range []string{"2 1 keep 5", "7 1000000 keep -1000 1000 0 3", "0 7 gone 3"} {
		g, _ := impl.ReadCommand(text)
		was := copyCommand(g)
		other, _ := impl.ReadCommand(text)
		spoilCommands([]impl.Command{other})
		if !sameCommand(g, was) || impl.ShowCommand(g) != text {
			t.Fatalf("ReadCommand(%q) became %v", text, g)
		}
	}
	pieces, other := impl.Pieces("abcdefg", 2), impl.Pieces("abcdefg", 2)
	other = other[:cap(other)]
	for i := range other {
		other[i] = "x"
	}
	if !slices.Equal(pieces, []string{"ab", "cd", "ef", "g"}) || !slices.Equal(impl.Pieces("abcdefg", 2), pieces) {
		t.Errorf("they became %q", pieces)
	}
}

// No two lists of a Desk that is drawn share memory.
func TestDrawnListsAreApart(t *testing.T) {
	for i, d := range slices.Concat(manyDesks(), fewDesks(), smallDesks()) {
		if i%3 > 0 && i < 200 {
			continue
		}
		text := impl.Picture(d)
		listsApart(t, func() impl.State {
			g, _ := impl.Drawn(text)
			return g.State
		}, d.State)
		g, _ := impl.Drawn(text)
		spoilDesk(impl.Desk{Sessions: g.Sessions})
		if !sameState(g.State, d.State) {
			t.Fatalf("Drawn(%q) became %v with its Sessions", text, g)
		}
		g, _ = impl.Drawn(text)
		spoilState(g.State)
		if !slices.Equal(g.Sessions, d.Sessions) {
			t.Fatalf("Drawn(%q) became %v with its State", text, g)
		}
	}
}

// A Desk that is drawn goes on as the one of which the Picture is.
func TestDrawnGoesOn(t *testing.T) {
	next := walkOf(243)
	for width := int64(1); width <= 4; width++ {
		for _, many := range []int64{1, 8} {
			list := script(next, width, 90, many)
			for _, at := range []int{0, 1, 20, 60, 90} {
				d, _ := impl.Folded(width, list[:at])
				g, _ := impl.Drawn(strings.Join(impl.Pieces(impl.Picture(d), 40), ""))
				for _, c := range list[at:] {
					var reply, want int64
					d, want = impl.Applied(d, c)
					g, reply = impl.Applied(g, c)
					if reply != want || !sameDesk(g, d) {
						t.Fatalf("with %v it is %v, %d, not %v, %d", c, g, reply, d, want)
					}
				}
			}
		}
	}
}

// Many calls at once do not meet: nothing is kept between them.
func TestJournalAtOnce(t *testing.T) {
	d, _ := foldedIn(2, script(walkOf(244), 2, 60, 8))
	text, same := pictureIn(d), make(chan bool)
	for range 8 {
		go func() {
			g, ok := impl.Drawn(text)
			_, none := impl.Drawn(text[1:])
			same <- ok && !none && sameDesk(g, d) && impl.Picture(d) == text
		}()
	}
	for range 8 {
		if !<-same {
			t.Error("one is another")
		}
	}
}
