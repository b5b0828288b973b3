package tests

import (
	"fmt"
	"regexp"
	"runtime"
	"slices"
	"strings"
	"testing"
	"time"

	"loop.example/g00273/impl"
)

const (
	mostBench = 20000
	mostLines = 200
)

// tableForm is a line of the table, but for ask, by its words and numbers.
var tableForm = regexp.MustCompile(strings.ReplaceAll(`^(?:same|(?:step|save|crash|take|tree) N|fetch N N|(?:near|felt|far) N N N N)$`, "N", numberForm))

// actWords are those of the Acts of one Copy alone.
var actWords = map[string]int64{"step": impl.AcStep, "save": impl.AcSave, "crash": impl.AcCrash, "take": impl.AcTake}

// table answers lines by the document's table: by what the functions of the
// chapters tell of the World that the lines before have left.
type table struct {
	world impl.World
	// codes is how often each Kind of Act was told each of them.
	codes map[[2]int64]int
	// told is how often each word was answered, by error or not.
	told map[string]map[bool]int
	// apart is how often near and felt would not tell the same.
	apart int
}

func newTable() *table {
	w, _ := impl.NewWorld(2, 2)
	return &table{world: w, codes: map[[2]int64]int{}, told: map[string]map[bool]int{}}
}

// happens answers by how many there are behind the Act.
func (b *table) happens(a impl.Act, many func(w impl.World) int64) string {
	w, code := impl.Happen(b.world, a)
	b.world = w
	b.codes[[2]int64{a.Kind, code}]++
	if code != 0 {
		return "error"
	}
	return fmt.Sprint(many(w))
}

func (b *table) asked(text string) string {
	c, ok := readIn(text)
	if !ok {
		return "error"
	}
	return b.happens(askOf(c), func(w impl.World) int64 { return int64(len(w.Log)) })
}

// toldOfState is what near, felt and tree tell.
func toldOfState(word string, s impl.State, n []int64) string {
	hits := []impl.Hit{}
	switch word {
	case "tree":
		return fmt.Sprint(impl.Total(impl.Threads(s.Marks, 2)))
	case "near":
		hits = impl.Exact(s, n[:2], n[2])
	case "felt":
		hits = impl.Felt(s, n[:2], n[2])
	}
	list := []int64{}
	for _, h := range hits {
		list = append(list, h.Id, h.Far)
	}
	if len(list) == 0 {
		return "error"
	}
	return blanks(list...)
}

func (b *table) answered(line string) string {
	if text, is := strings.CutPrefix(line, "ask "); is {
		return b.asked(text)
	}
	if !tableForm.MatchString(line) {
		return "error"
	}
	word, n := strings.Fields(line)[0], told(line)[1:]
	switch {
	case actWords[word] > 0:
		return b.happens(actOf(actWords[word], n[0]), func(w impl.World) int64 { return w.Copies[n[0]].Applied })
	case word == "fetch":
		return b.happens(fetchOf(n[0], n[1]), func(w impl.World) int64 { return int64(len(w.Copies[n[0]].Parts)) })
	case word == "same":
		return map[bool]string{true: "yes", false: "no"}[impl.Same(b.world)]
	case word == "far" && impl.Far(n[:2], n[2:]) >= 0:
		return fmt.Sprint(impl.Far(n[:2], n[2:]))
	case word == "far", n[0] < 0, n[0] >= int64(len(b.world.Copies)):
		return "error"
	}
	s := b.world.Copies[n[0]].Desk.State
	if word != "tree" && toldOfState("near", s, n[1:]) != toldOfState("felt", s, n[1:]) {
		b.apart++
	}
	return toldOfState(word, s, n[1:])
}

// answer is that of one line, which has a byte, with the byte 10 behind it.
func (b *table) answer(line string) string {
	text, word := b.answered(line), strings.Split(line, " ")[0]
	if b.told[word] == nil {
		b.told[word] = map[bool]int{}
	}
	b.told[word][text != "error"]++
	return text + "\n"
}

// benchIn is Bench by the document's words.
func benchIn(text string) string {
	lines := strings.Split(text, "\n")
	if lines[len(lines)-1] == "" {
		lines = lines[:len(lines)-1]
	}
	if len(text) > mostBench || len(lines) > mostLines {
		return ""
	}
	b, all := newTable(), ""
	for _, line := range lines {
		if line != "" {
			all += b.answer(line)
		}
	}
	return all
}

func benches(t *testing.T, text string) string {
	t.Helper()
	g := impl.Bench(text)
	if want := benchIn(text); g != want {
		t.Fatalf("Bench(%q) = %q, not %q", text, g, want)
	}
	return g
}

// answers asks the lines, each parted from the next one by a bar, for these
// answers.
func answers(t *testing.T, lines, want string) {
	t.Helper()
	text := strings.ReplaceAll(lines, "|", "\n")
	if g := benches(t, text); g != strings.ReplaceAll(want, "|", "\n")+"\n" {
		t.Fatalf("Bench(%q) = %q, not %q", text, g, want)
	}
}

// noBench asks for an empty answer.
func noBench(t *testing.T, text string) {
	t.Helper()
	if g := benches(t, text); g != "" {
		t.Fatalf("Bench of %d bytes = %q", len(text), g)
	}
}

// lineOf is the line of an Act, be it right or not.
func lineOf(a impl.Act) string {
	switch a.Kind {
	case impl.AcAsk:
		return "ask " + showIn(a.Command)
	case impl.AcFetch:
		return "fetch " + blanks(a.A, a.B)
	}
	for word, kind := range actWords {
		if kind == a.Kind {
			return word + " " + blanks(a.A)
		}
	}
	return "what " + blanks(a.A)
}

// liner draws lines of a text, most of which do something.
type liner struct {
	player
	kept pictureKept
	// ahead is how many of the first lines ask and step alone.
	ahead int
}

// looks are near and felt, most often of a Copy with marks; where one is that
// is there or is gone, or anywhere.
func (l *liner) looks(w impl.World) string {
	a := l.one(which(w, func(c impl.Copy) bool { return len(c.Desk.State.Marks) > 0 }))
	k := []int64{1, 1, 1, 1 + l.next(5), 1 + l.next(5), 1 + l.next(60), 60, 59 + l.next(4)}[l.next(8)]
	s, at := w.Copies[a].Desk.State, pointOf(l.next, 2, []int64{5, 35, 35, 1000, 1002}[l.next(5)])
	if all := s.Tower.Webs[0].Marks; len(all) > 0 && l.next(2) == 0 {
		at = all[l.next(int64(len(all)))].At
	}
	line := blanks(a, at[0], at[1], k)
	// Most often both tell the same: it is drawn once more.
	if l.next(30) > 0 && slices.Equal(impl.Exact(s, at, k), impl.Felt(s, at, k)) {
		return l.looks(w)
	}
	return []string{"near ", "felt "}[l.next(2)] + line
}

func (l *liner) right(w impl.World) string {
	l.ahead--
	switch kind := l.next(24); {
	case l.ahead >= 0 && int64(len(w.Log)) > w.Copies[0].Applied:
		return "step 0"
	case l.ahead >= 0:
		return lineOf(l.asks())
	case kind < 16:
		return lineOf(l.tries(l.kept, w))
	case kind < 20:
		return l.looks(w)
	case kind == 20:
		return "same"
	case kind == 21:
		return "far " + blanks(slices.Concat(pointOf(l.next, 2, 40), pointOf(l.next, 2, []int64{40, 1001}[l.next(2)]))...)
	}
	return "tree " + blanks(l.next(2)+l.next(12)/11)
}

// spoilt is the line with one thing that is most often wrong.
func (l *liner) spoilt(line string) string {
	at := int(l.next(int64(len(line))))
	blank := strings.LastIndex(line, " ") + 1
	return []string{
		line + " ", " " + line, line + " 0", line + "\r", line + "\t", line[:at] + " " + line[at:], line[:at] + "0" + line[at:], line[:at] + line[at+1:],
		strings.Replace(line, " ", "  ", 1), strings.Replace(line, " ", "\t", 1), line[:blank] + "+" + line[blank:], line[:blank] + "0" + line[blank:],
		line[:blank] + "-" + line[blank:], line[:blank] + "1000000000", line[:blank], line[:max(blank-1, 0)] + "x", strings.ToUpper(line), line[:at] + "\x00" + line[at+1:],
	}[l.next(18)]
}

// goingScript is a script of which the later half is most often of marks that
// go, so that of what is near often only some is there.
func goingScript(next func(int64) int64, count, many int64) []impl.Command {
	list := script(next, 2, count, many)
	for i, c := range list {
		if behind := int64(i) - count/2; behind > 0 && next(4) > 0 {
			list[i] = goneBy(c.Client, c.Seq, 1+(behind+next(3))%(count/3+1))
		}
	}
	return list
}

// drawnText is a text of so many lines, and the answers of each of them: of
// one without a byte it is empty.
func drawnText(next func(int64) int64, count int) (*table, []string, []string) {
	b, l := newTable(), liner{player: player{next: next, queue: goingScript(next, 5+next(60), 1+next(8))}, kept: pictureKept{}}
	l.ahead = []int{0, 0, count / 2}[next(3)]
	lines, all := []string{}, []string{}
	for range count {
		line := ""
		if next(20) > 0 {
			line = l.right(b.world)
		}
		if line != "" && next(10) == 0 {
			line = l.spoilt(line)
		}
		answer := ""
		if line != "" {
			answer = b.answer(line)
		}
		lines, all = append(lines, line), append(all, answer)
	}
	return b, lines, all
}

func TestBenchLimits(t *testing.T) {
	if impl.MaxBench != mostBench || impl.MaxLines != mostLines {
		t.Error(impl.MaxBench, impl.MaxLines)
	}
}

// Promise 20: of drawn texts each line has the answer that the chapters'
// functions have for it; what comes later changes none of those before.
func TestBenchTellsWhatTheChaptersTell(t *testing.T) {
	codes, words, apart := map[[2]int64]int{}, map[string]map[bool]int{}, 0
	for seed := range uint64(120) {
		next := walkOf(270000 + seed)
		b, lines, all := drawnText(next, []int{mostLines, mostLines, 100, 30}[seed%4])
		text, whole := strings.Join(lines, "\n")+[]string{"", "\n"}[next(2)], strings.Join(all, "")
		if g := impl.Bench(text); g != whole {
			t.Fatalf("Bench(%q) = %q, not %q", text, g, whole)
		}
		withByte := slices.DeleteFunc(slices.Clone(lines), func(line string) bool { return line == "" })
		if many := strings.Count(whole, "\n"); many != len(withByte) {
			t.Fatalf("%d lines are answered of %q", many, text)
		}
		for range 4 {
			cut := int(next(int64(len(lines) + 1)))
			ahead, told := strings.Join(lines[:cut], "\n")+"\n", strings.Join(all[:cut], "")
			if g := impl.Bench(ahead); g != told {
				t.Fatalf("Bench(%q) = %q, not %q", ahead, g, told)
			}
			_, others, _ := drawnText(next, min(20, mostLines-cut))
			other := ahead + strings.Join(others, "\n")
			if g := impl.Bench(other); !strings.HasPrefix(g, told) || g != benchIn(other) {
				t.Fatalf("Bench(%q) = %q, not %q", other, g, benchIn(other))
			}
			// Within a line it is another one, or it is none.
			at := int(next(int64(len(text))))
			told = strings.Join(all[:strings.Count(text[:at], "\n")], "")
			if g := impl.Bench(text[:at]); !strings.HasPrefix(g, told) || g != benchIn(text[:at]) {
				t.Fatalf("Bench(%q) = %q, not %q", text[:at], g, benchIn(text[:at]))
			}
		}
		apart += b.apart
		for code, many := range b.codes {
			codes[code] += many
		}
		for word, told := range b.told {
			if words[word] == nil {
				words[word] = map[bool]int{}
			}
			words[word][true] += told[true]
			words[word][false] += told[false]
		}
	}
	done, undone := 0, 0
	for _, word := range []string{"ask", "step", "save", "crash", "take", "fetch", "near", "felt", "same", "far", "tree"} {
		if words[word][true] < 100 || words[word][false] < 5 {
			t.Errorf("%s is answered %v", word, words[word])
		}
		done, undone = done+words[word][true], undone+words[word][false]
	}
	if done < 3*undone {
		t.Errorf("%d lines do something, %d don't: %v", done, undone, words)
	}
	for kind := int64(impl.AcAsk); kind <= impl.AcTake; kind++ {
		if codes[[2]int64{kind, 0}] < 100 {
			t.Errorf("%d was told %v", kind, codes)
		}
	}
	if codes[[2]int64{impl.AcTake, 3}] < 30 || apart < 20 {
		t.Errorf("take was told %v; near and felt were apart %d times", codes, apart)
	}
}

// Each line that is asked of the bench as it begins.
func TestBenchOfOneLine(t *testing.T) {
	for _, c := range [][2]string{
		{"ask 0 1 keep 3 4", "1"}, {"ask 7 1000000 gone 1000000", "1"}, {"ask 2 5 keep -1000 1000", "1"}, {"ask 2 5 keep 1", "1"}, {"ask 2 5 keep 1 2 3 4", "1"}, {"ask 2 5 gone 9", "1"},
		{"step 0", "error"}, {"step 1", "error"}, {"save 0", "0"}, {"save 1", "0"}, {"crash 0", "0"}, {"crash 1", "0"}, {"take 0", "error"}, {"take 1", "error"},
		{"fetch 0 1", "error"}, {"fetch 1 0", "error"}, {"fetch 0 0", "error"}, {"near 0 0 0 1", "error"}, {"near 1 3 4 60", "error"}, {"felt 0 0 0 1", "error"}, {"felt 1 3 4 60", "error"},
		{"same", "yes"}, {"far 0 0 3 4", "25"}, {"far 3 4 0 0", "25"}, {"far -3 4 3 -4", "100"}, {"far 5 6 5 6", "0"}, {"far 0 0 0 0", "0"}, {"far -7 1000 -7 1000", "0"}, {"far 1 2 1 3", "1"},
		{"tree 0", "0"}, {"tree 1", "0"},
	} {
		answers(t, c[0], c[1])
		answers(t, c[0]+"|", c[1])
		answers(t, "||"+c[0]+"||", c[1])
		answers(t, "what|"+c[0]+"|same", "error|"+c[1]+"|yes")
	}
}

// Each line of the table behind others, by hand.
func TestBenchOrdinary(t *testing.T) {
	for _, c := range [][2]string{
		{"ask 0 1 keep 3 4|ask 0 2 keep 3 4|ask 5 1 gone 2", "1|2|3"},
		{"ask 0 1 keep 3 4|ask 0 1 keep 3 4|ask 0 9 gone 9|ask 1 1 keep 5", "1|2|3|4"},
		{"ask 0 1 keep 3 4|step 0|step 0|step 1|step 1", "1|1|error|1|error"},
		{"ask 0 1 keep 3 4|ask 0 2 keep 1 1|step 0|step 1|step 0|step 1", "1|2|1|1|2|2"},
		{"ask 0 1 keep 3 4|step 0|save 0|save 1|save 0", "1|1|1|0|1"},
		{"ask 0 1 keep 3 4|step 0|crash 0|near 0 3 4 1|step 0|near 0 3 4 1", "1|1|0|error|1|1 0"},
		{"ask 0 1 keep 3 4|step 0|save 0|ask 0 2 keep 1 1|step 0|crash 0|near 0 0 0 9|crash 1", "1|1|1|2|2|1|1 25|0"},
		{"ask 0 1 keep 3 4|step 0|save 0|fetch 1 0|fetch 1 0|take 1|take 1|near 1 0 0 1", "1|1|1|1|error|1|error|1 25"},
		{"ask 0 1 keep 3 4|ask 0 2 keep 5 6|step 0|step 0|save 0|fetch 1 0|fetch 1 0|fetch 1 0|take 1|near 1 3 4 2", "1|2|1|2|2|1|2|error|2|1 0 2 8"},
		{"ask 0 1 keep 3 4|step 1|save 1|fetch 0 1|take 0|save 0|fetch 1 0|take 1|fetch 1 0", "1|1|1|1|1|1|1|error|1"},
		{"ask 0 1 keep 3 4|step 0|near 0 0 0 1|near 0 3 4 60|near 1 3 4 60", "1|1|1 25|1 0|error"},
		{"ask 0 1 keep 3 4|step 0|felt 0 0 0 1|felt 0 3 4 60|felt 1 3 4 60", "1|1|1 25|1 0|error"},
		{"ask 0 1 keep 3 4|ask 1 1 keep 0 1|ask 0 2 keep 6 8|step 0|step 0|step 0|near 0 0 0 2|near 0 0 0 3|near 0 6 8 60", "1|2|3|1|2|3|2 1 1 25|2 1 1 25 3 100|3 0 1 25 2 85"},
		{"ask 0 1 keep 3 4|ask 1 1 keep 0 1|ask 0 2 keep 6 8|step 1|step 1|step 1|felt 1 0 0 2|felt 1 0 0 3|felt 1 6 8 60", "1|2|3|1|2|3|2 1 1 25|2 1 1 25 3 100|3 0 1 25 2 85"},
		{"ask 0 1 keep 3 4|ask 1 1 keep 3 4|step 0|step 0|near 0 3 4 1|near 0 3 4 2|felt 0 3 4 2", "1|2|1|2|1 0|1 0 2 0|1 0 2 0"},
		{"ask 0 1 keep 3 4|ask 0 2 gone 1|step 0|tree 0|near 0 0 0 1|step 0|tree 0|near 0 0 0 1|felt 0 0 0 1", "1|2|1|0|1 25|2|0|error|error"},
		// Felt looks at three for each one: where all of them are gone, it tells
		// nothing of the one behind them.
		{
			"ask 0 1 keep 0 0|ask 0 2 keep 1 0|ask 0 3 keep 2 0|ask 0 4 keep 10 0|ask 0 5 gone 1|ask 0 6 gone 2|ask 0 7 gone 3|step 0|step 0|step 0|step 0|step 0|step 0|near 0 0 0 1|felt 0 0 0 1|step 0|near 0 0 0 1|felt 0 0 0 1|felt 0 0 0 2|felt 0 10 0 1",
			"1|2|3|4|5|6|7|1|2|3|4|5|6|3 4|3 4|7|4 100|error|4 100|4 0",
		},
		{"ask 0 1 keep 3 4|ask 0 1 keep 3 4|ask 0 1 gone 1|step 0|step 0|step 0|near 0 0 0 9", "1|2|3|1|2|3|1 25"},
		{"ask 0 2 keep 3 4|ask 0 1 keep 5|ask 0 1 keep 6 7|step 0|step 0|step 0|near 0 0 0 9", "1|2|3|1|2|3|error"},
		{"ask 0 1 keep 0 0|ask 0 2 keep 3 4|ask 0 3 keep 3 5|step 0|tree 0|step 0|tree 0|step 0|tree 0|tree 1", "1|2|3|1|0|2|7|3|8|0"},
		{"ask 0 1 keep 3 4|same|step 0|same|save 0|same|step 1|same|crash 1|same|fetch 1 0|same|take 1|same", "1|yes|1|yes|1|yes|1|yes|0|yes|1|yes|1|yes"},
		{"ask 0 1 keep 3 4|ask 0 2 keep 3 4|step 0|step 0|same|step 1|same|step 1|same", "1|2|1|2|yes|1|yes|2|yes"},
		{"far 1 2 3 4|far -1 -2 -3 -4|far 1000 0 -1000 0", "8|8|4000000"},
	} {
		answers(t, c[0], c[1])
	}
}

// A line without a byte is passed over wherever it stands; the last line may
// lack its byte 10.
func TestBenchLinesWithoutByte(t *testing.T) {
	lines, want := strings.Split("ask 0 1 keep 3 4|step 0|near 0 0 0 1|what|same", "|"), "1\n1\n1 25\nerror\nyes\n"
	for _, many := range []int{1, 2, 5, 30} {
		for at := range 7 {
			parts := slices.Clone(lines)
			gap := strings.Repeat("\n", many)
			switch {
			case at < len(lines):
				parts[at] = gap + parts[at]
			default:
				parts[len(lines)-1] += gap
			}
			for _, end := range []string{"", "\n"} {
				text := strings.Join(parts, "\n") + end
				if g := benches(t, text); g != want {
					t.Fatalf("Bench(%q) = %q", text, g)
				}
			}
		}
		if g := benches(t, strings.Join(lines, strings.Repeat("\n", many))); g != want {
			t.Fatalf("with %d it is %q", many, g)
		}
	}
	for _, text := range []string{"", "\n", "\n\n", strings.Repeat("\n", mostLines), strings.Repeat("\n", mostLines+1), strings.Repeat("\n", mostBench), strings.Repeat("\n", mostBench+1)} {
		noBench(t, text)
	}
	// A blank is a byte, and so is any other but 10.
	for _, line := range []string{" ", "  ", "\t", "\r", "\x00", "\xff", "\v"} {
		answers(t, line+"|same|"+line, "error|yes|error")
	}
}

// Texts as long as they may be, and longer by one.
func TestBenchLongest(t *testing.T) {
	for _, c := range [][2]string{{"", "error\n"}, {"same\n", "yes\nerror\n"}, {"ask 0 1 keep 3 4\nstep 0\nnear 0 0 0 1\n", "1\n1\n1 25\nerror\n"}, {"\n\n", "error\n"}} {
		for _, one := range []string{"x", " ", "\x00", "0", "same "} {
			long := c[0] + strings.Repeat(one, mostBench+1)
			if g := benches(t, long[:mostBench]); g != c[1] {
				t.Fatalf("of %d bytes it is %q", mostBench, g)
			}
			if g := benches(t, long[:mostBench-1]+"\n"); g != c[1] {
				t.Fatalf("of %d bytes it is %q", mostBench, g)
			}
			noBench(t, long[:mostBench+1])
			noBench(t, long[:mostBench]+"\n")
			noBench(t, strings.Repeat(long, 20))
		}
	}
	// All the lines do something, as many as they may be, and the last one is
	// as long as it takes.
	lines := []string{}
	for seq := range int64(60) {
		lines = append(lines, "ask "+showIn(keepBy(seq%8, 1+seq/8, seq, -seq)), "step 0", "step 1")
	}
	lines = append(lines, "near 0 0 0 60", "felt 1 0 0 60", "tree 0", "same")
	text := strings.Join(lines, "\n") + "\n"
	text += strings.Repeat("x", mostBench-len(text))
	if g := benches(t, text); strings.Count(g, "\n") != 185 || !strings.HasSuffix(g, "\nyes\nerror\n") {
		t.Errorf("Bench(%q) = %q", text, g)
	}
	noBench(t, text+"x")
}

// As many lines as there may be, and one more; those without a byte count too.
func TestBenchMostLines(t *testing.T) {
	for _, c := range [][2]string{{"same", "yes\n"}, {"what", "error\n"}, {"save 0", "0\n"}, {"", ""}} {
		for _, count := range []int{1, 2, mostLines - 1, mostLines, mostLines + 1, mostLines + 2, 2 * mostLines} {
			want := strings.Repeat(c[1], count)
			if count > mostLines {
				want = ""
			}
			whole := strings.Repeat(c[0]+"\n", count)
			if g := benches(t, whole); g != want {
				t.Fatalf("of %d lines %q it is %q", count, c[0], g)
			}
			if g := benches(t, strings.TrimSuffix(whole, "\n")); c[0] != "" && g != want {
				t.Fatalf("of %d lines %q it is %q", count, c[0], g)
			}
		}
	}
	gap := strings.Repeat("\n", mostLines-1)
	for text, want := range map[string]string{
		gap + "same": "yes\n", gap + "same\n": "yes\n", gap + "\nsame": "", gap + "\nsame\n": "", "same" + gap: "yes\n", "same" + gap + "\n": "yes\n", "same" + gap + "\n\n": "",
		"same" + gap + "what": "yes\nerror\n", "same" + gap + "what\n": "yes\nerror\n", "same" + gap + "\nwhat": "", "same" + gap + "what\n\n": "",
		gap: "", gap + "\n": "", gap + "\n\n": "",
	} {
		if g := benches(t, text); g != want {
			t.Errorf("Bench(%q) = %q, not %q", text, g, want)
		}
	}
}

// As many Commands as there may be, and one more; a log that is full stays so.
func TestBenchFullLog(t *testing.T) {
	lines, want := []string{}, []string{}
	for seq := range int64(mostLogged) {
		lines, want = append(lines, "ask "+showIn(keepBy(3, 1+seq, seq, 0))), append(want, fmt.Sprint(seq+1))
	}
	lines = append(lines, "ask 0 1 keep 1 1", "ask 3 101 gone 1", "step 0", "ask 3 101 gone 1", "near 0 0 0 9", "same")
	want = append(want, "error", "error", "1", "error", "1 0", "yes")
	answers(t, strings.Join(lines, "|"), strings.Join(want, "|"))
}

// As many marks as there may be: those that are kept behind them are none.
func TestBenchFullOfMarks(t *testing.T) {
	lines := []string{}
	for seq := range int64(impl.MaxMarks + 2) {
		lines = append(lines, "ask "+showIn(keepBy(seq%8, 1+seq/8, seq, 0)), "step 1")
	}
	last := []string{"near 1 0 0 60", "near 1 0 0 61", "near 1 0 0 59", "felt 1 0 0 60", "felt 1 0 0 61", "tree 1", "tree 0", "step 1", "save 1", "same"}
	g := strings.Split(benches(t, strings.Join(append(lines, last...), "\n")), "\n")
	all := []int64{}
	for id := range int64(impl.MaxMarks) {
		all = append(all, id+1, id*id)
	}
	g = g[len(lines):]
	if g[0] != blanks(all...) || g[1] != "error" || g[2] != blanks(all[:118]...) || g[4] != "error" || g[5] != "59" || g[6] != "0" || g[7] != "error" || g[8] != "62" || g[9] != "yes" {
		t.Errorf("they are answered %q", g)
	}
	if !strings.HasPrefix(g[3], "1 0 2 1 3 4 4 9") {
		t.Errorf("felt is answered %q", g[3])
	}
}

// Numbers at the ends of what they may be, and behind them.
func TestBenchEndsOfNumbers(t *testing.T) {
	ahead, told := "ask 0 1 keep 3 4|step 0|", "1|1|"
	for _, word := range []string{"near", "felt"} {
		for k, want := range map[int64]string{1: "1 25", 2: "1 25", 59: "1 25", 60: "1 25", 61: "error", 62: "error", 0: "error", -1: "error", -60: "error", 999999999: "error", -999999999: "error", 1000000000: "error", 1 << 32: "error", 1<<32 + 1: "error", greatest: "error", least: "error"} {
			answers(t, ahead+word+" 0 0 0 "+blanks(k), told+want)
		}
		for at, want := range map[string]string{
			"1000 1000": "1 1986025", "-1000 -1000": "1 2014025", "-1000 1000": "1 1998025", "1001 0": "error", "0 1001": "error", "-1001 0": "error", "0 -1001": "error", "999999999 0": "error", "0 -999999999": "error",
			"1000000000 0": "error", "0 9223372036854775807": "error", "18446744073709551616 0": "error",
		} {
			answers(t, ahead+word+" 0 "+at+" 1", told+want)
		}
	}
	for line, want := range map[string]string{
		"far 1000 1000 -1000 -1000": "8000000", "far -1000 -1000 1000 1000": "8000000", "far 1001 0 0 0": "error", "far 0 1001 0 0": "error", "far 0 0 1001 0": "error", "far 0 0 0 1001": "error",
		"far -1001 0 0 0": "error", "far 0 -1001 0 0": "error", "far 0 0 -1001 0": "error", "far 0 0 0 -1001": "error", "far 999999999 0 0 0": "error", "far 1000000000 0 1000000000 0": "error",
		"ask 0 1 keep 1000 -1000": "1", "ask 0 1 keep 1001 0": "error", "ask 0 1 keep 0 -1001": "error", "ask 7 1 gone 1": "1", "ask 8 1 gone 1": "error", "ask -1 1 gone 1": "error",
		"ask 0 1000000 gone 1": "1", "ask 0 1000001 gone 1": "error", "ask 0 0 gone 1": "error", "ask 0 -1 gone 1": "error", "ask 0 1 gone 1000000": "1", "ask 0 1 gone 1000001": "error", "ask 0 1 gone 0": "error", "ask 0 1 gone -1": "error",
		"ask 0 1 keep 1 2 3 4": "1", "ask 0 1 keep 1 2 3 4 5": "error", "ask 0 1 keep 1": "1", "ask 0 1 keep": "error",
	} {
		answers(t, line, want)
	}
}

// richLines leave Copies with marks, one that is gone, one that has saved and
// one that has fetched a part of it; behind them moreLines tell whether all of
// it is there.
const (
	richLines = "ask 0 1 keep 3 4|ask 1 1 keep 0 0|ask 2 1 keep -5 6|ask 0 2 gone 2|ask 1 2 keep 7 7|step 0|step 0|step 0|step 0|save 0|fetch 1 0|step 1"
	moreLines = "near 0 0 0 60|felt 0 0 0 60|tree 0|near 1 0 0 60|felt 1 0 0 60|tree 1|same|fetch 1 0|take 1|fetch 1 0|fetch 1 0|fetch 1 0|take 1|near 1 0 0 60|tree 1|step 1|step 1|step 0|crash 0|near 0 0 0 9|ask 0 3 keep 9 9|step 0|step 0|step 1|near 1 0 0 9|same|save 1|fetch 0 1|far 1 1 2 2"
)

// isError asks that the line be answered by error behind richLines, and that
// the answers of all others be as they are without it.
func isError(t *testing.T, line string) {
	t.Helper()
	ahead, behind := strings.ReplaceAll(richLines, "|", "\n")+"\n", strings.ReplaceAll(moreLines, "|", "\n")
	whole, told := impl.Bench(ahead+behind), impl.Bench(ahead)
	if g := benches(t, ahead+line+"\n"+behind); g != told+"error\n"+strings.TrimPrefix(whole, told) {
		t.Fatalf("with %q it is %q, not %q", line, g, whole)
	}
	answers(t, line, "error")
	answers(t, "same|"+line+"|same", "yes|error|yes")
}

// What is asked behind richLines, and what is told of it.
func TestBenchRich(t *testing.T) {
	answers(t, richLines, "1|2|3|4|5|1|2|3|4|4|1|1")
	g := strings.Split(benches(t, strings.ReplaceAll(richLines+"|"+moreLines, "|", "\n")), "\n")[12:]
	for at, want := range map[int]string{0: "1 25 3 61", 2: "10", 3: "1 25", 5: "0", 6: "yes", 7: "2", 8: "error", 9: "1", 10: "2", 11: "3", 12: "4", 13: "1 25 3 61", 14: "10", 15: "5", 16: "error", 17: "5", 18: "4", 19: "1 25 3 61", 20: "6", 25: "yes", 26: "6", 27: "1", 28: "2"} {
		if g[at] != want {
			t.Errorf("%d is answered %q, not %q", at, g[at], want)
		}
	}
}

// rightLines are one of each word, done or told behind richLines.
func rightLines() []string {
	return []string{"ask 3 1 keep 5 5", "ask 3 1 gone 1", "step 0", "step 1", "save 1", "crash 0", "fetch 1 0", "near 0 0 0 1", "felt 0 0 0 1", "same", "far 0 0 3 4", "tree 0"}
}

func TestBenchUnknownWords(t *testing.T) {
	for _, line := range []string{
		"what", "what 0", "Ask 0 1 keep 0 0", "ASK 0 1 keep 0 0", "Same", "SAME", "sam", "samee", "ssame", "asks 0 1 keep 0 0", "steps 0", "ste 0", "0", "-", "error", "yes", "no", "1", "keep 0 0", "gone 1",
		"0 1 keep 0 0", "0 step", "saved 0", "crashed 0", "taken 0", "fetches 1 0", "nearest 0 0 0 1", "feel 0 0 0 1", "fart 0 0 0 1", "trees 0", "drop 0", "world", "ok", "x", "\xff\xfe", "s\x00ame", "ask\x000", "same;", "#same", "step,0", "step=0",
	} {
		isError(t, line)
	}
}

func TestBenchWordsTooManyOrFew(t *testing.T) {
	for _, line := range rightLines() {
		words := strings.Split(line, " ")
		for count := 1; count < len(words); count++ {
			if few := strings.Join(words[:count], " "); few != "ask 3 1 keep 5" {
				isError(t, few)
			}
		}
		for _, more := range []string{" 0", " 1", " -1", " x", " 0 0", " 1 1 1", " same", " " + line} {
			if many := line + more; !strings.HasPrefix(line, "ask 3 1 keep") || strings.Count(many, " ") > 7 || strings.HasSuffix(many, "x") || strings.HasSuffix(many, "same") {
				isError(t, many)
			}
		}
	}
	// A point may have 1 to 4 numbers: those of another width are in Log, and
	// are not kept.
	for _, at := range []string{"5", "5 5 5", "5 5 5 5"} {
		answers(t, richLines+"|ask 3 1 keep "+at+"|near 0 5 5 1|step 0|step 0|near 0 5 5 1|tree 0|same", "1|2|3|4|5|1|2|3|4|4|1|1|6|1 5|5|6|1 5|17|yes")
	}
}

func TestBenchOtherBlanks(t *testing.T) {
	for _, line := range rightLines() {
		for _, blank := range []string{" ", "  ", "\t", "\r", "\v", "\f", "\x00", "\u00a0", "\u2003", "\u200b", "\ufeff", " \t", "\t "} {
			isError(t, blank+line)
			isError(t, line+blank)
			for at := range line {
				if line[at] != ' ' {
					continue
				}
				if blank != " " {
					isError(t, line[:at]+blank+line[at+1:])
				}
				isError(t, line[:at]+blank+line[at:])
			}
		}
	}
}

func TestBenchNoNumbers(t *testing.T) {
	for _, line := range rightLines() {
		words := strings.Split(line, " ")
		for at, word := range words {
			if len(told(word)) != 1 || at == 0 || word == "keep" || word == "gone" {
				continue
			}
			for _, no := range []string{
				"+" + word, "0" + word, "00" + word, "-0", "+0", "--1", "-", "+", "x", word + "x", "x" + word, "0x0", "0b1", "1e0", "1.0", word + ".", "1_0", "1,0", "\u0663", "\uff11", "1000000000", "-1000000000", "0000000001",
				"9223372036854775807", "9223372036854775808", "-9223372036854775808", "18446744073709551616", "18446744073709551617", strings.Repeat("9", 300), "nought", "- 1", word + "-", "'" + word + "'",
			} {
				other := slices.Clone(words)
				other[at] = no
				isError(t, strings.Join(other, " "))
			}
		}
	}
}

func TestBenchNoSuchCopy(t *testing.T) {
	for _, a := range []string{"-1", "2", "3", "5", "7", "10", "256", "65536", "999999999", "-2", "-999999999"} {
		for _, line := range []string{"step A", "save A", "crash A", "take A", "fetch A 0", "fetch 0 A", "fetch 1 A", "fetch A 1", "fetch A A", "near A 0 0 1", "felt A 0 0 1", "tree A"} {
			isError(t, strings.ReplaceAll(line, "A", a))
		}
	}
}

// Acts where nothing is done, and what is asked where nothing is told.
func TestBenchRefused(t *testing.T) {
	for _, line := range []string{
		"take 0", "fetch 0 0", "fetch 1 1", "fetch 0 1", "ask 8 1 keep 0 0", "ask 0 0 keep 0 0", "ask 0 1 keep 1001 0", "ask 0 1 gone 0", "ask 0 1 take 0", "ask keep 0 1 0 0", "ask 0 1 Keep 0 0", "ask - 1 keep 0 0",
		"near 0 0 0 0", "near 0 0 0 61", "near 0 0 0 -1", "near 0 1001 0 1", "near 0 0 -1001 1", "felt 0 0 0 0", "felt 0 0 0 61", "felt 0 0 0 -1", "felt 0 1001 0 1", "felt 0 0 -1001 1", "felt 0 0 0 999999999", "near 0 0 0 999999999",
		"far 1001 0 0 0", "far 0 0 0 -1001", "far 1001 0 1001 0",
	} {
		isError(t, line)
	}
	answers(t, "ask 0 1 keep 3 4|step 0|step 0|step 1|step 1|near 0 0 0 1", "1|1|error|1|error|1 25")
	answers(t, "ask 0 1 keep 3 4|save 0|fetch 1 0|fetch 1 0|take 1|take 1|near 1 0 0 1", "1|0|1|error|error|error|error")
	answers(t, "near 0 0 0 1|ask 0 1 keep 3 4|near 0 0 0 1|step 0|near 0 0 0 1|felt 1 0 0 1", "error|1|error|1|1 25|error")
}

// Parts that are none go, whatever is answered, and it begins anew.
func TestBenchTakeOfParts(t *testing.T) {
	ahead, told := "ask 0 1 keep 3 4|ask 0 2 keep 5 6|step 0|step 0|save 0|", "1|2|1|2|2|"
	for _, c := range [][2]string{
		{"fetch 1 0|take 1|take 1|fetch 1 0|fetch 1 0|fetch 1 0|take 1|near 1 3 4 1", "1|error|error|1|2|error|2|1 0"},
		{"fetch 1 0|fetch 1 0|take 1|fetch 1 0|take 1|fetch 1 0|fetch 1 0|take 1|tree 1", "1|2|2|1|error|1|2|error|4"},
		{"step 1|step 1|fetch 1 0|fetch 1 0|take 1|take 1|fetch 1 0|near 1 3 4 1|same", "1|2|1|2|error|error|1|1 0|yes"},
		{"step 1|fetch 1 0|fetch 1 0|take 1|tree 1|crash 1", "1|1|2|2|4|2"},
		{"fetch 1 0|crash 1|take 1|fetch 1 0", "1|0|error|1"},
		{"fetch 1 0|ask 0 3 gone 1|step 0|save 0|fetch 1 0|take 1|fetch 1 0|fetch 1 0|take 1|near 1 3 4 9", "1|3|3|3|1|error|1|2|3|2 8"},
	} {
		answers(t, ahead+c[0], told+c[1])
	}
}

// Any text has its answers: near to right ones, and of any bytes.
func TestBenchOfAnyBytes(t *testing.T) {
	next, anyBytes := walkOf(271), "  \n\n01239-+\tsamekptrfcho\x00\xff\r"
	nearTo("ask 0 1 keep 1 0\nstep 0\nnear 0 0 0 1\nfar 0 0 1 1\nsame\n", func(text string) { benches(t, text) })
	nearTo("save 1\nfetch 0 1\n\ntake 0\ntree 0", func(text string) { benches(t, text) })
	for range 3000 {
		text := ""
		for range next(60) {
			at := next(int64(len(anyBytes)))
			text += anyBytes[at : at+1]
		}
		benches(t, text)
	}
	words := []string{"ask", "step", "save", "crash", "take", "fetch", "near", "felt", "same", "far", "tree", "keep", "gone", "0", "0", "0", "1", "1", "1", "2", "5", "-1", "60", "61", "", "\n", "\n", "\n", "\n", "x"}
	for range 3000 {
		text := ""
		for range next(60) {
			text += words[next(int64(len(words)))] + []string{" ", " ", " ", "\n"}[next(4)]
		}
		benches(t, text)
	}
}

// longBench does as much as there are lines for.
func longBench() (string, string) {
	lines := []string{}
	for seq := range int64(60) {
		lines = append(lines, "ask "+showIn(keepBy(seq%8, 1+seq/8, seq*seq%97, -seq)), "step 0")
	}
	lines = append(lines, "save 0")
	for range 60 {
		lines = append(lines, "fetch 1 0")
	}
	for range 4 {
		lines = append(lines, "near 0 0 0 60", "felt 0 1 1 60", "tree 0", "same")
	}
	text := strings.Join(lines, "\n")
	return text, benchIn(text)
}

// The same text has the same answers; nothing is kept between them, of no text
// and of no other call.
func TestBenchAgain(t *testing.T) {
	text, want := longBench()
	for range 3 {
		for _, other := range []string{text, "ask 0 1 keep 3 4\nstep 0", "", text + "\n\nwhat\n", strings.Repeat("same\n", mostLines+1)} {
			benches(t, other)
		}
		if g := impl.Bench(text); g != want {
			t.Fatalf("it became %q, not %q", g, want)
		}
	}
	same := make(chan bool)
	for range 8 {
		go func() { same <- impl.Bench(text) == want && impl.Bench("tree 0\nsame") == "0\nyes\n" }()
	}
	for range 8 {
		if !<-same {
			t.Error("one is another")
		}
	}
}

// No goroutine is left behind, whatever the text.
func TestBenchLeavesNoGoroutine(t *testing.T) {
	text, _ := longBench()
	was := runtime.NumGoroutine()
	for range 50 {
		for _, one := range []string{"", "\n", "same", "what\n", "step 0\nstep 1", strings.Repeat("same\n", mostLines), strings.Repeat("same\n", mostLines+1), strings.Repeat("x", mostBench+1)} {
			impl.Bench(one)
		}
	}
	impl.Bench(text)
	// One that has just been joined may yet be counted for a moment.
	for range 200 {
		if runtime.NumGoroutine() <= was {
			return
		}
		time.Sleep(5 * time.Millisecond)
	}
	t.Errorf("there are %d goroutines, and there were %d", runtime.NumGoroutine(), was)
}
