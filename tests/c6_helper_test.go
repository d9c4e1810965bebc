package tests

import (
	"slices"
	"strconv"
	"strings"
	"testing"

	"loop.example/jointjudgments/impl"
)

// maxDesk is written out, so that a changed constant is noticed.
const maxDesk = 20

// chosen is what LoadedOf or BoughtOf returns: names, the numbers of the ballots, and the number below these.
type chosen struct {
	names   []int
	numbers []int
	below   int
}

// loadedOf returns the results of LoadedOf, and checks what they are always like.
func loadedOf(t *testing.T, c int, ballots []int, k int) chosen {
	t.Helper()
	names, loads, below := impl.LoadedOf(c, ballots, k)
	got := chosen{names, loads, below}
	if len(names) != k || !isChoice(c, ballots, got) {
		t.Fatalf("LoadedOf(%d, %v, %d) = %v", c, ballots, k, got)
	}
	return got
}

// boughtOf returns the results of BoughtOf, and checks what they are always like.
func boughtOf(t *testing.T, c int, ballots []int, k int) chosen {
	t.Helper()
	names, purses, below := impl.BoughtOf(c, ballots, k)
	got := chosen{names, purses, below}
	if len(names) > k || !isChoice(c, ballots, got) {
		t.Fatalf("BoughtOf(%d, %v, %d) = %v", c, ballots, k, got)
	}
	return got
}

// isChoice reports whether each of the names is one of c, and there once, and each ballot has a number that is not negative.
func isChoice(c int, ballots []int, x chosen) bool {
	areNames := isAmong(x.names, othersOf(c, nil)) && len(othersOf(c, x.names)) == c-len(x.names)
	return areNames && len(x.numbers) == len(ballots) && slices.Min(x.numbers) >= 0 && x.below >= 1
}

// wantChosen checks names, numbers and the number below these.
func wantChosen(t *testing.T, call string, got chosen, names []int, numbers []int, below int) {
	t.Helper()
	if !slices.Equal(got.names, names) || !slices.Equal(got.numbers, numbers) || got.below != below {
		t.Errorf("%s = %v, want %v, %v, %d", call, got, names, numbers, below)
	}
}

// wantNoChoice checks the fixed results of LoadedOf and BoughtOf.
func wantNoChoice(t *testing.T, c int, ballots []int, k int) {
	t.Helper()
	if names, loads, below := impl.LoadedOf(c, ballots, k); len(names) != 0 || len(loads) != 0 || below != 0 {
		t.Errorf("LoadedOf(%d, %v, %d) = %v, %v, %d, want none", c, ballots, k, names, loads, below)
	}
	if names, purses, below := impl.BoughtOf(c, ballots, k); len(names) != 0 || len(purses) != 0 || below != 0 {
		t.Errorf("BoughtOf(%d, %v, %d) = %v, %v, %d, want none", c, ballots, k, names, purses, below)
	}
}

// wantSwap checks that there is a swap, and which one.
func wantSwap(t *testing.T, c int, ballots []int, w int, from int, to int) {
	t.Helper()
	if a, b, ok := impl.SwapOf(c, ballots, w); !ok || a != from || b != to {
		t.Errorf("SwapOf(%d, %v, %d) = %d, %d, %v, want %d, %d", c, ballots, w, a, b, ok, from, to)
	}
}

// wantNoSwap checks that there is 0, 0 and false.
func wantNoSwap(t *testing.T, c int, ballots []int, w int) {
	t.Helper()
	if a, b, ok := impl.SwapOf(c, ballots, w); ok || a != 0 || b != 0 {
		t.Errorf("SwapOf(%d, %v, %d) = %d, %d, %v, want none", c, ballots, w, a, b, ok)
	}
}

// wantDesk checks the answers to lines.
func wantDesk(t *testing.T, lines []string, answers ...string) {
	t.Helper()
	want := ""
	for _, answer := range answers {
		want += answer + "\n"
	}
	if got := impl.RunDesk(lines); got != want {
		t.Errorf("RunDesk(%q) = %q, want %q", lines, got, want)
	}
}

// sumOfNums returns the sum of a list.
func sumOfNums(list []int) int {
	sum := 0
	for _, x := range list {
		sum += x
	}
	return sum
}

// spaceWords returns the words that ask about a space.
func spaceWords() []string { return []string{"critical", "median", "blocked"} }

// votesWords returns the words that ask about votes in a space.
func votesWords() []string { return []string{"majority", "medians", "slater", "ranked"} }

// noWords returns words that ask for nothing, those of which a few letters are other ones among them.
func noWords() []string {
	return []string{
		"", "what", "wrong", "yes", "walk", "help", "Critical", "MEDIAN", "medianS", "critica", "criticals", "blocked\n",
		"\tmedian", "median\t", "rankeds", "slater,", "majority:", "even", "turn", "kept", "middle", "wanted", "settled",
		"critical\x00", "\xff", "0", "1:0", "space", "votes", "majorit\u00e4t", "\u00a0median",
	}
}

// wrongSpaces returns texts without spaces that are no text of a space.
func wrongSpaces() []string {
	return []string{
		"", ":", "3", "3:", ":0", "0:0", "5:0", "5:0,1,2,3", "-1:0", "1:2", "4:16", "2:-1", "2:-0", "2:+1", "+2:1", "2:1,0", "2:0,0",
		"2:01", "02:1", "2:0,", "2:,0", "2:0,,1", "2:0:1", "2::0", "2;0", "2:0;1", "2:0x1", "2:0.0", "2:0\n", "2:0\t", "\n2:0", "2:\x00",
		"x", "and", "median", "1:\xff", "2:9223372036854775808", "18446744073709551618:0", "4:" + strings.Repeat("0,", 500) + "0",
	}
}

// wrongVotes returns texts without spaces that are no votes in the space: texts that are no list, none and one vote more
// than there may be, numbers that are no judgments of it, and numbers that are not written so.
func wrongVotes(s impl.Space) []string {
	vote := strconv.Itoa(s.All[0])
	texts := []string{
		"", ",", vote + ",", "," + vote, vote + ",," + vote, "0" + vote, "00" + vote, "+" + vote, "-" + vote, vote + ";" + vote, vote + ":" + vote,
		vote + ".0", vote + "\n", "\t" + vote, vote + "\x00", "x", vote + ",x", "\xff", impl.SpaceText(s), strings.Repeat("9", 30),
		numsText(slices.Repeat([]int{s.All[0]}, maxVotes+1)), numsText(slices.Repeat([]int{s.All[0]}, 300)),
	}
	for _, votes := range invalidVotes(s) {
		texts = append(texts, numsText(votes))
	}
	return texts
}

// numsText returns numbers in decimal with a comma between two of them.
func numsText(list []int) string {
	text := ""
	for i, x := range list {
		if i > 0 {
			text += ","
		}
		text += strconv.Itoa(x)
	}
	return text
}

// someLines returns lines of each kind: about some spaces and votes in them, with texts that are wrong in each way, with
// too few texts and too many, and with words that there are not.
func someLines() []string {
	lines := []string{"", " ", "  ", "   ", "\n", "\n\n", "\x00", "\xff"}
	add := func(texts ...string) { lines = append(lines, strings.Join(texts, " ")) }
	someSpaces(6007, func(s impl.Space) {
		text := impl.SpaceText(s)
		for _, word := range spaceWords() {
			add(word, text)
		}
		someVotes(s, 2, func(votes []int) {
			for _, word := range votesWords() {
				add(word, text, numsText(votes))
			}
		})
	})
	for _, text := range wrongSpaces() {
		for _, word := range spaceWords() {
			add(word, text)
		}
		for _, word := range votesWords() {
			add(word, text, "0")
			add(word, text, "")
		}
	}
	for _, s := range []impl.Space{{Issues: 1, All: []int{1}}, {Issues: 3, All: []int{0, 1, 2, 7}}, {Issues: 4, All: []int{3, 9, 15}}} {
		for _, word := range votesWords() {
			for _, text := range wrongVotes(s) {
				add(word, impl.SpaceText(s), text)
			}
		}
	}
	for _, word := range slices.Concat(spaceWords(), votesWords(), noWords()) {
		for _, texts := range [][]string{{}, {""}, {"1:0"}, {"", ""}, {"1:0", "0"}, {"1:0", ""}, {"", "1:0"}, {"", "0"}, {"1:0", "0", ""}, {"1:0", "0", "0"}, {"", "1:0", "0"}} {
			add(append([]string{word}, texts...)...)
			add(append([]string{"", word}, texts...)...)
		}
	}
	return lines
}
