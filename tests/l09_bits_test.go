package tests

import (
	"fmt"
	"slices"
	"strconv"
	"strings"
	"testing"

	"loop.example/g00273/impl"
)

// lastWord is the greatest that there is.
const lastWord = 65535

// noWords are numbers that chapter 9 refuses; some of them have a right word
// in their lowest bits.
var noWords = []int64{-1, -2, -5, -32768, -lastWord, -lastWord - 1, -lastWord - 2, lastWord + 1, lastWord + 2, lastWord + 6, 2*lastWord + 1, 1 << 17, 1 << 32, 1<<32 + 5, -1 << 32, 1 << 48, 1 << 62, least, least + 1, least + 5, greatest, greatest - 1}

// partCounts are all into which a word may be parted.
var partCounts = []int64{1, 2, 4, 8}

// noPartCounts are numbers of parts that there are not.
var noPartCounts = []int64{0, 3, 5, 6, 7, 9, 10, 12, 15, 16, 17, 32, 64, 1 << 16, 1 << 32, 1<<32 + 1, 1<<32 + 4, 1 << 62, -1, -2, -4, -8, -16, -1 << 32, least, least + 1, least + 4, greatest, greatest - 1}

// noBitCounts are numbers that Close takes for no count of bits.
var noBitCounts = []int64{-1, -2, -16, -17, 17, 18, 32, 1 << 16, 1 << 32, 1<<32 + 3, -1 << 32, 1 << 62, least, least + 1, least + 16, greatest, greatest - 1}

// bitsIn are the bits of a word, the highest first.
func bitsIn(a int64) string { return fmt.Sprintf("%016b", a) }

// unlikeIn is Apart by the document's words, digit by digit.
func unlikeIn(a, b int64) int64 {
	first, other := bitsIn(a), bitsIn(b)
	many := int64(0)
	for i := range first {
		if first[i] != other[i] {
			many++
		}
	}
	return many
}

// partsIn is Parts by the document's words; the last digits are the lowest part.
func partsIn(a, n int64) []int64 {
	text, long, all := bitsIn(a), int(16/n), []int64{}
	for end := 16; end > 0; end -= long {
		part, err := strconv.ParseInt(text[end-long:end], 2, 64)
		if err != nil {
			panic(err)
		}
		all = append(all, part)
	}
	return all
}

// alikeIn is Alike by the document's words.
func alikeIn(list []int64, q, n int64) []int64 {
	asked, numbers := partsIn(q, n), []int64{}
	for i, a := range list {
		for k, part := range partsIn(a, n) {
			if part == asked[k] {
				numbers = append(numbers, int64(i))
				break
			}
		}
	}
	return numbers
}

// closeIn is Close by the document's words.
func closeIn(list []int64, q, most int64) []int64 {
	numbers := []int64{}
	for i, a := range list {
		if unlikeIn(a, q) <= most {
			numbers = append(numbers, int64(i))
		}
	}
	return numbers
}

// someWords has count words: of each three one anywhere, one a few bits from
// q, and one that stands there already or q itself.
func someWords(next func(int64) int64, count int, q int64) []int64 {
	list := []int64{}
	for i := range count {
		word := next(lastWord + 1)
		switch i % 3 {
		case 1:
			word = q
			for range next(9) {
				word ^= 1 << next(16)
			}
		case 2:
			word = append(slices.Clone(list), q)[next(int64(i)+1)]
		}
		list = append(list, word)
	}
	return list
}

// wordCase is a list of words and one to ask for.
type wordCase struct {
	list []int64
	q    int64
}

// manyWords has lists of no words up to MaxMarks, with words to ask for.
func manyWords() []wordCase {
	next, cases := walkOf(9), []wordCase{}
	for _, count := range []int{0, 1, 2, 3, 4, 5, 8, 13, 20, 31, 59, impl.MaxMarks} {
		for range 12 {
			for _, q := range []int64{0, lastWord, 0x00ff, 0x5555, 1 << next(16), next(lastWord + 1), next(lastWord + 1)} {
				cases = append(cases, wordCase{someWords(next, count, q), q})
			}
		}
	}
	return cases
}

func TestWeightOrdinary(t *testing.T) {
	for _, c := range []struct{ a, want int64 }{
		{0, 0}, {1, 1}, {2, 1}, {3, 2}, {5, 2}, {7, 3}, {255, 8}, {256, 1}, {0x1234, 5}, {0x5555, 8}, {0xaaaa, 8}, {0x8001, 2}, {32767, 15}, {32768, 1}, {65534, 15}, {65535, 16},
	} {
		if g := impl.Weight(c.a); g != c.want {
			t.Errorf("Weight(%d) = %d, not %d", c.a, g, c.want)
		}
	}
	for place := range 16 {
		bit := int64(1) << place
		if g, h := impl.Weight(bit), impl.Weight(lastWord-bit); g != 1 || h != 15 {
			t.Errorf("bit %d: %d alone, %d of all others", place, g, h)
		}
	}
}

// Each word there is, and those beside them on both sides.
func TestWeightEachWord(t *testing.T) {
	for a := int64(-70000); a <= 140000; a++ {
		want := int64(-1)
		if a >= 0 && a <= lastWord {
			want = int64(strings.Count(bitsIn(a), "1"))
		}
		if g := impl.Weight(a); g != want {
			t.Fatalf("Weight(%d) = %d, not %d", a, g, want)
		}
	}
}

func TestApartOrdinary(t *testing.T) {
	for _, c := range []struct{ a, b, want int64 }{
		{0, 0, 0}, {lastWord, lastWord, 0}, {0x1234, 0x1234, 0}, {0, lastWord, 16}, {0x5555, 0xaaaa, 16}, {0x00ff, 0xff00, 16},
		{0, 1, 1}, {4, 5, 1}, {0, 32768, 1}, {lastWord, 32767, 1}, {5, 6, 2}, {1, 2, 2}, {7, 8, 4}, {255, 256, 9}, {32767, 32768, 16}, {0x1230, 0x1234, 1}, {0x1230, 0x1235, 2}, {0x1230, 0x0034, 3}, {0x1230, lastWord, 12},
	} {
		if g, h := impl.Apart(c.a, c.b), impl.Apart(c.b, c.a); g != c.want || h != c.want {
			t.Errorf("Apart(%d, %d) = %d, the other way %d, not %d", c.a, c.b, g, h, c.want)
		}
	}
}

func TestApartEachBit(t *testing.T) {
	for a := int64(0); a <= lastWord; a += 41 {
		if g, h := impl.Apart(a, a), impl.Apart(a, lastWord-a); g != 0 || h != 16 {
			t.Errorf("%d is %d from itself, %d from all others", a, g, h)
		}
		for place := range 16 {
			bit := int64(1) << place
			if g, h := impl.Apart(a, a^bit), impl.Apart(a, lastWord-a^bit); g != 1 || h != 15 {
				t.Errorf("bit %d of %d: %d alone, %d of all others", place, a, g, h)
			}
		}
	}
}

// Apart by its words, what it says of Weight, and the third side.
func TestApartByItsWords(t *testing.T) {
	next := walkOf(91)
	for range 20000 {
		a, b, c := next(lastWord+1), next(lastWord+1), next(lastWord+1)
		want := unlikeIn(a, b)
		if g, h := impl.Apart(a, b), impl.Apart(b, a); g != want || h != want {
			t.Fatalf("Apart(%d, %d) = %d, the other way %d, not %d", a, b, g, h, want)
		}
		if impl.Weight(a) != impl.Apart(a, 0) || impl.Weight(a^b) != want {
			t.Fatalf("Weight of %d or of %d is not what is apart", a, a^b)
		}
		if impl.Apart(a, c) > want+impl.Apart(b, c) {
			t.Fatalf("%d, %d and %d keep not the third side", a, b, c)
		}
	}
}

func TestPartsOrdinary(t *testing.T) {
	for _, c := range []struct {
		a    int64
		want []int64
	}{
		{0, []int64{0}}, {0, []int64{0, 0}}, {0, []int64{0, 0, 0, 0}}, {0, []int64{0, 0, 0, 0, 0, 0, 0, 0}},
		{lastWord, []int64{lastWord}}, {lastWord, []int64{255, 255}}, {lastWord, []int64{15, 15, 15, 15}}, {lastWord, []int64{3, 3, 3, 3, 3, 3, 3, 3}},
		// The lowest part comes first.
		{0x1234, []int64{0x1234}}, {0x1234, []int64{0x34, 0x12}}, {0x1234, []int64{4, 3, 2, 1}}, {0x1234, []int64{0, 1, 3, 0, 2, 0, 1, 0}},
		{1, []int64{1}}, {1, []int64{1, 0}}, {1, []int64{1, 0, 0, 0}}, {1, []int64{1, 0, 0, 0, 0, 0, 0, 0}},
		{32768, []int64{32768}}, {32768, []int64{0, 128}}, {32768, []int64{0, 0, 0, 8}}, {32768, []int64{0, 0, 0, 0, 0, 0, 0, 2}},
		{0xff00, []int64{0, 255}}, {0x00ff, []int64{255, 0}}, {0xabcd, []int64{13, 12, 11, 10}}, {0b1110010011100100, []int64{0, 1, 2, 3, 0, 1, 2, 3}},
	} {
		if g := impl.Parts(c.a, int64(len(c.want))); !slices.Equal(g, c.want) {
			t.Errorf("Parts(%d, %d) = %v, not %v", c.a, len(c.want), g, c.want)
		}
	}
}

func TestPartsEachWord(t *testing.T) {
	for _, n := range partCounts {
		for a := int64(0); a <= lastWord; a++ {
			if g, want := impl.Parts(a, n), partsIn(a, n); !slices.Equal(g, want) {
				t.Fatalf("Parts(%d, %d) = %v, not %v", a, n, g, want)
			}
		}
	}
}

func TestAlikeOrdinary(t *testing.T) {
	list := []int64{0x1234, 0x1235, 0xffff, 0x0034}
	for _, c := range []struct {
		list []int64
		q, n int64
		want []int64
	}{
		{nil, 5, 1, nil}, {[]int64{}, 5, 4, nil}, {make([]int64, 0, 3), 0, 8, nil},
		{[]int64{5}, 5, 1, []int64{0}}, {[]int64{4}, 5, 1, nil}, {[]int64{4}, 5, 2, []int64{0}}, {[]int64{0}, lastWord, 8, nil}, {[]int64{lastWord}, 0, 1, nil},
		{list, 0x1230, 1, nil}, {list, 0x1230, 2, []int64{0, 1}}, {list, 0x1230, 4, []int64{0, 1, 3}}, {list, 0x1230, 8, []int64{0, 1, 2, 3}}, {list, 0x1200, 8, []int64{0, 1, 3}}, {list, 0x1234, 1, []int64{0}}, {list, 0xff34, 2, []int64{0, 2, 3}},
		// Words that are alike are told each.
		{[]int64{7, 7, 7}, 7, 1, []int64{0, 1, 2}}, {[]int64{7, 8, 7, 8}, 8, 1, []int64{1, 3}}, {[]int64{0x0107, 0x0208, 0x0107}, 0x0307, 2, []int64{0, 2}},
		// The same number in another part is not alike.
		{[]int64{0x1200, 0x0012, 0x1212}, 0x3412, 2, []int64{1, 2}}, {[]int64{0x1234}, 0x4321, 4, nil}, {[]int64{0x1234}, 0x4324, 4, []int64{0}}, {[]int64{0b1110010011100100}, 0b1001001110010011, 8, nil},
		// The first part or the last one is enough, and one in between.
		{[]int64{0xaaa5, 0x5aaa, 0xaa5a, 0xa5aa, 0xaaaa}, 0x5555, 4, []int64{0, 1, 2, 3}}, {[]int64{0xaaa5, 0x5aaa, 0xaa5a, 0xa5aa, 0xaaaa}, 0x5555, 2, nil},
	} {
		if g := impl.Alike(c.list, c.q, c.n); !slices.Equal(g, c.want) {
			t.Errorf("Alike(%x, %x, %d) = %v, not %v", c.list, c.q, c.n, g, c.want)
		}
	}
}

// Each part is enough alone, where all others are unlike in all their bits
// or in one.
func TestAlikeEachPart(t *testing.T) {
	for _, n := range partCounts {
		long := 16 / n
		for _, q := range []int64{0, lastWord, 0x1234, 0x5555, 0xa5f0} {
			every, none := int64(0), int64(lastWord)
			for i := range n {
				every |= 1 << (i * long)
				part := (int64(1)<<long - 1) << (i * long)
				if g := impl.Alike([]int64{q ^ (none &^ part)}, q, n); len(g) != 1 {
					t.Errorf("part %d of %d alone is alike with %x: %v", i, n, q, g)
				}
			}
			for shift := range long {
				for i := range n {
					if g := impl.Alike([]int64{q ^ (every &^ (1 << (i * long)) << shift)}, q, n); len(g) != 1 {
						t.Errorf("part %d of %d alone is alike with %x, bit %d: %v", i, n, q, shift, g)
					}
				}
				if g := impl.Alike([]int64{q ^ (every << shift)}, q, n); len(g) != 0 {
					t.Errorf("no part of %d is alike with %x, bit %d: %v", n, q, shift, g)
				}
			}
		}
	}
}

func TestCloseOrdinary(t *testing.T) {
	list := []int64{0x1234, 0x1235, 0xffff, 0x0034}
	for _, c := range []struct {
		list    []int64
		q, most int64
		want    []int64
	}{
		{nil, 5, 0, nil}, {[]int64{}, 5, 16, nil}, {make([]int64, 0, 3), 0, 3, nil},
		{[]int64{5}, 5, 0, []int64{0}}, {[]int64{4}, 5, 0, nil}, {[]int64{4}, 5, 1, []int64{0}}, {[]int64{0}, lastWord, 15, nil}, {[]int64{0}, lastWord, 16, []int64{0}}, {[]int64{lastWord}, 0, 16, []int64{0}},
		{list, 0x1230, 0, nil}, {list, 0x1230, 1, []int64{0}}, {list, 0x1230, 2, []int64{0, 1}}, {list, 0x1230, 3, []int64{0, 1, 3}}, {list, 0x1230, 11, []int64{0, 1, 3}}, {list, 0x1230, 12, []int64{0, 1, 2, 3}}, {list, 0x1230, 16, []int64{0, 1, 2, 3}}, {list, 0xffff, 0, []int64{2}},
		// Words that are alike are told each.
		{[]int64{7, 7, 7}, 7, 0, []int64{0, 1, 2}}, {[]int64{7, 8, 7, 8}, 8, 3, []int64{1, 3}}, {[]int64{7, 8, 7, 8}, 8, 4, []int64{0, 1, 2, 3}},
	} {
		if g := impl.Close(c.list, c.q, c.most); !slices.Equal(g, c.want) {
			t.Errorf("Close(%x, %x, %d) = %v, not %v", c.list, c.q, c.most, g, c.want)
		}
	}
}

// Of words each one bit farther, just so many more are told.
func TestCloseEachMost(t *testing.T) {
	for _, q := range []int64{0, lastWord, 0x1234, 0x5555} {
		near, far := []int64{}, []int64{}
		for bits := range 17 {
			near = append(near, q^(1<<bits-1))
			far = append(far, q^(lastWord-(1<<bits-1)))
		}
		for most := range 17 {
			if g, want := impl.Close(near, q, int64(most)), risingIds(0, 17)[:most+1]; !slices.Equal(g, want) {
				t.Errorf("Close(%x, %x, %d) = %v, not %v", near, q, most, g, want)
			}
			if g, want := impl.Close(far, q, int64(most)), risingIds(0, 17)[16-most:]; !slices.Equal(g, want) {
				t.Errorf("Close(%x, %x, %d) = %v, not %v", far, q, most, g, want)
			}
		}
	}
}

func TestAlikeAndCloseByTheirWords(t *testing.T) {
	var some, full int
	for _, c := range manyWords() {
		for _, n := range partCounts {
			want := alikeIn(c.list, c.q, n)
			if g := impl.Alike(c.list, c.q, n); !slices.Equal(g, want) {
				t.Fatalf("Alike(%x, %x, %d) = %v, not %v", c.list, c.q, n, g, want)
			}
			if len(want) > 0 && len(want) < len(c.list) {
				some++
			}
		}
		for most := range int64(17) {
			want := closeIn(c.list, c.q, most)
			if g := impl.Close(c.list, c.q, most); !slices.Equal(g, want) {
				t.Fatalf("Close(%x, %x, %d) = %v, not %v", c.list, c.q, most, g, want)
			}
			if len(want) > 0 && len(want) < len(c.list) {
				some++
			}
		}
		if len(c.list) == impl.MaxMarks {
			full++
		}
	}
	if some < 2000 || full < 50 {
		t.Errorf("%d have some, %d are full", some, full)
	}
}

// pigeonhole is promise 9 of one list; it tells how many that Close gives
// were asked.
func pigeonhole(t *testing.T, list []int64, q int64) int {
	t.Helper()
	asked := 0
	for _, n := range partCounts {
		alike := impl.Alike(list, q, n)
		if !slices.IsSorted(alike) || len(slices.Compact(slices.Clone(alike))) != len(alike) {
			t.Fatalf("Alike(%x, %x, %d) = %v does not rise", list, q, n, alike)
		}
		for most := range n {
			for _, i := range impl.Close(list, q, most) {
				if !slices.Contains(alike, i) {
					t.Fatalf("%x is %d from %x, but of %d parts none is alike: %v", list[i], most, q, n, alike)
				}
				asked++
			}
		}
	}
	return asked
}

// Promise 9: who is Close by less than n is Alike in one of n Parts.
func TestPigeonhole(t *testing.T) {
	asked := 0
	for _, c := range manyWords() {
		asked += pigeonhole(t, c.list, c.q)
		// Close leaves none out by itself: q is there each time.
		if g := pigeonhole(t, append(c.list[:min(len(c.list), impl.MaxMarks-1)], c.q), c.q); g < 15 {
			t.Fatalf("%d words that are close with %x among them", g, c.q)
		}
	}
	if asked < 10000 {
		t.Errorf("only %d words were close", asked)
	}
}

// Promise 9 of all words that are less than 8 bits from one.
func TestPigeonholeEachWord(t *testing.T) {
	for _, q := range []int64{0, 0x1234, lastWord} {
		asked, list := 0, []int64{}
		for unlike := int64(0); unlike <= lastWord; unlike++ {
			list = append(list, q^unlike)
			if len(list) == impl.MaxMarks || unlike == lastWord {
				asked += pigeonhole(t, list, q)
				list = nil
			}
		}
		// As many words as there are ways to choose at most so many of 16
		// bits, for each most and each n above it.
		ways, upTo, want := 1, 0, 0
		for most := range 8 {
			upTo += ways
			ways = ways * (16 - most) / (most + 1)
			for _, n := range partCounts {
				if int64(most) < n {
					want += upTo
				}
			}
		}
		if asked != want {
			t.Errorf("%d words were close to %x, not %d", asked, q, want)
		}
	}
}

// Promise 9 tells no more than it says: with one bit in each of n parts a
// word is Close by n, and Alike in none.
func TestPigeonholeIsFull(t *testing.T) {
	for _, n := range partCounts {
		every := int64(0)
		for i := range n {
			every |= 1 << (i * 16 / n)
		}
		for _, q := range []int64{0, 0x1234, lastWord} {
			list := []int64{q ^ every}
			if g, h := impl.Close(list, q, n), impl.Close(list, q, n-1); len(g) != 1 || len(h) != 0 {
				t.Errorf("%x by %d: %v, by one less: %v", list, n, g, h)
			}
			if g := impl.Alike(list, q, n); len(g) != 0 {
				t.Errorf("%x of %d parts: %v", list, n, g)
			}
		}
	}
}

// MaxMarks words are right, one more is not, nor are many more.
func TestWordsMany(t *testing.T) {
	for _, count := range []int{1, 2, 59, impl.MaxMarks, impl.MaxMarks + 1, impl.MaxMarks + 2, 2 * impl.MaxMarks, 256, 65536, 65537} {
		for _, q := range []int64{0, 9, lastWord} {
			list, want := slices.Repeat([]int64{q}, count), risingIds(0, count)
			if count > impl.MaxMarks {
				want = nil
			}
			for _, n := range partCounts {
				if g := impl.Alike(list, q, n); !slices.Equal(g, want) {
					t.Errorf("Alike of %d, %d, %d = %v", count, q, n, g)
				}
			}
			for most := range int64(17) {
				if g := impl.Close(list, q, most); !slices.Equal(g, want) {
					t.Errorf("Close of %d, %d, %d = %v", count, q, most, g)
				}
			}
		}
	}
}

// 0 and 65535 are right, -1 and 65536 are not, wherever a word is asked for.
func TestWordEdges(t *testing.T) {
	for _, c := range []struct {
		a     int64
		right bool
	}{{-1, false}, {0, true}, {1, true}, {lastWord - 1, true}, {lastWord, true}, {lastWord + 1, false}} {
		if g, h, k := impl.Weight(c.a), impl.Apart(c.a, 3), impl.Apart(3, c.a); g >= 0 != c.right || h >= 0 != c.right || k >= 0 != c.right {
			t.Errorf("of %d: Weight %d, Apart %d and %d", c.a, g, h, k)
		}
		for _, n := range partCounts {
			if g := impl.Parts(c.a, n); len(g) > 0 != c.right {
				t.Errorf("Parts(%d, %d) = %v", c.a, n, g)
			}
			if g, h := impl.Alike([]int64{c.a}, c.a, n), impl.Alike([]int64{7, c.a}, 7, n); len(g) > 0 != c.right || len(h) > 0 != c.right {
				t.Errorf("Alike of %d and %d: %v and %v", c.a, n, g, h)
			}
		}
		if g, h, k := impl.Close([]int64{c.a}, c.a, 16), impl.Close([]int64{7, c.a}, 7, 16), impl.Close([]int64{7}, c.a, 16); len(g) > 0 != c.right || len(h) > 0 != c.right || len(k) > 0 != c.right {
			t.Errorf("Close of %d: %v, %v and %v", c.a, g, h, k)
		}
	}
}

func TestNoWord(t *testing.T) {
	for _, wrong := range noWords {
		if g := impl.Weight(wrong); g != -1 {
			t.Errorf("Weight(%d) = %d", wrong, g)
		}
		for _, a := range slices.Concat([]int64{0, 1, 5, 0x1234, lastWord}, noWords) {
			if g, h := impl.Apart(wrong, a), impl.Apart(a, wrong); g != -1 || h != -1 {
				t.Errorf("Apart(%d, %d) = %d, the other way %d", wrong, a, g, h)
			}
		}
		for _, n := range slices.Concat(partCounts, noPartCounts) {
			if g := impl.Parts(wrong, n); len(g) != 0 {
				t.Errorf("Parts(%d, %d) = %v", wrong, n, g)
			}
		}
	}
}

// noneTold asks that neither Alike nor Close tells anything, whatever is
// right beside what is wrong.
func noneTold(t *testing.T, list []int64, q int64) {
	t.Helper()
	for _, n := range slices.Concat(partCounts, noPartCounts) {
		if g := impl.Alike(list, q, n); len(g) != 0 {
			t.Fatalf("Alike(%v, %d, %d) = %v", list, q, n, g)
		}
	}
	for _, most := range slices.Concat(risingIds(0, 17), noBitCounts) {
		if g := impl.Close(list, q, most); len(g) != 0 {
			t.Fatalf("Close(%v, %d, %d) = %v", list, q, most, g)
		}
	}
}

func TestNoWordAmongWords(t *testing.T) {
	for _, wrong := range noWords {
		noneTold(t, nil, wrong)
		for _, count := range []int{1, 2, 7, impl.MaxMarks} {
			right := slices.Repeat([]int64{wrong & lastWord}, count)
			noneTold(t, right, wrong)
			for _, i := range []int{0, count / 2, count - 1} {
				list := with(right, i, wrong)
				noneTold(t, list, wrong&lastWord)
				noneTold(t, list, wrong)
			}
		}
		noneTold(t, slices.Repeat([]int64{wrong}, impl.MaxMarks), 0)
	}
}

func TestNoParts(t *testing.T) {
	for n := int64(-70); n <= 70; n++ {
		right := slices.Contains(partCounts, n)
		for _, a := range []int64{0, 5, 0x1234, lastWord} {
			if g := impl.Parts(a, n); len(g) > 0 != right || right && int64(len(g)) != n {
				t.Errorf("Parts(%d, %d) = %v", a, n, g)
			}
			if g := impl.Alike([]int64{a, a}, a, n); len(g) > 0 != right {
				t.Errorf("Alike of two %d, %d = %v", a, n, g)
			}
		}
	}
	for _, n := range noPartCounts {
		for _, a := range []int64{0, 5, 0x1234, lastWord} {
			if g, h := impl.Parts(a, n), impl.Alike([]int64{a}, a, n); len(g) != 0 || len(h) != 0 {
				t.Errorf("Parts(%d, %d) = %v, Alike %v", a, n, g, h)
			}
		}
	}
}

func TestNoMost(t *testing.T) {
	for most := int64(-70); most <= 70; most++ {
		right := most >= 0 && most <= 16
		for _, q := range []int64{0, 5, lastWord} {
			if g := impl.Close([]int64{q, q}, q, most); len(g) > 0 != right {
				t.Errorf("Close of two %d, %d = %v", q, most, g)
			}
		}
	}
	for _, most := range noBitCounts {
		if g := impl.Close([]int64{0, 1, lastWord}, 0, most); len(g) != 0 {
			t.Errorf("Close(.., %d) = %v", most, g)
		}
	}
}

func TestWordArgumentsStay(t *testing.T) {
	cases := manyWords()
	for _, wrong := range noWords {
		cases = append(cases, wordCase{[]int64{1, wrong, 3}, 1}, wordCase{[]int64{1, 2, 3}, wrong})
	}
	cases = append(cases, wordCase{make([]int64, impl.MaxMarks+1), 0})
	for _, c := range cases {
		list, whole := roomy(c.list)
		kept := slices.Clone(whole)
		for _, n := range slices.Concat(partCounts, []int64{0, 3, 16}) {
			spoilNumbers(impl.Alike(list, c.q, n))
		}
		for _, most := range []int64{-1, 0, 1, 7, 16, 17} {
			spoilNumbers(impl.Close(list, c.q, most))
		}
		if !slices.Equal(whole, kept) {
			t.Fatalf("%v became %v", kept, whole)
		}
	}
}

// What is written over an answer or its argument changes no other answer.
func TestWordAnswersAreNew(t *testing.T) {
	for _, n := range partCounts {
		for _, a := range []int64{0, 0x1234, lastWord} {
			first, second := impl.Parts(a, n), impl.Parts(a, n)
			spoilNumbers(first)
			if !slices.Equal(second, partsIn(a, n)) || !slices.Equal(impl.Parts(a, n), second) {
				t.Errorf("Parts(%d, %d) became %v", a, n, second)
			}
		}
	}
	for _, c := range manyWords() {
		list := slices.Clone(c.list)
		alike, near := impl.Alike(list, c.q, 4), impl.Close(list, c.q, 8)
		spoilNumbers(impl.Alike(list, c.q, 4))
		spoilNumbers(impl.Close(list, c.q, 8))
		spoilNumbers(list)
		if !slices.Equal(alike, alikeIn(c.list, c.q, 4)) || !slices.Equal(near, closeIn(c.list, c.q, 8)) {
			t.Fatalf("of %x and %x they became %v and %v", c.list, c.q, alike, near)
		}
	}
}
