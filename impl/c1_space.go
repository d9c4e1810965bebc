package impl

import (
	"math/bits"
	"slices"
	"strconv"
	"strings"
)

// MaxIssues is the largest number of issues.
const MaxIssues = 4

// MaxParts is the largest number of parts that are left out, and of judgments of a hull.
const MaxParts = 10

// Space is all judgments that may be.
type Space struct {
	Issues int
	All    []int
}

// Part is answers to some issues.
type Part struct {
	Care int
	Bits int
}

// ValidSpace reports whether a space is valid.
func ValidSpace(s Space) bool {
	if !validIssues(s.Issues) || len(s.All) == 0 {
		return false
	}
	for i, x := range s.All {
		if !isJudgment(s.Issues, x) || i > 0 && x <= s.All[i-1] {
			return false
		}
	}
	return true
}

// InSpace reports whether a judgment is one of a space.
func InSpace(s Space, x int) bool {
	return ValidSpace(s) && slices.Contains(s.All, x)
}

// ValidPart reports whether a part is one of judgments of a space.
func ValidPart(s Space, p Part) bool {
	return ValidSpace(s) && isPart(s.Issues, p)
}

// IsOpen reports whether a judgment has all answers of a part.
func IsOpen(s Space, p Part) bool {
	return ValidPart(s, p) && openAsker(s)(p)
}

// CriticalParts returns the least parts that no judgment has.
func CriticalParts(s Space) []Part {
	if !ValidSpace(s) {
		return nil
	}
	order := partsInOrder(s.Issues)
	isOpen := openAsker(s)
	closed := map[Part]bool{}
	for _, p := range order {
		if !isOpen(p) {
			closed[p] = true
		}
	}
	// Parts come after all lesser ones, so one that is still there when its turn comes has no lesser closed part.
	var list []Part
	for _, p := range order {
		if closed[p] {
			list = append(list, p)
			dropGreater(closed, p)
		}
	}
	return list
}

// SpaceWithout returns the space of judgments without some parts.
func SpaceWithout(issues int, parts []Part) (Space, bool) {
	if !validIssues(issues) || len(parts) > MaxParts {
		return Space{}, false
	}
	for _, p := range parts {
		if !isPart(issues, p) {
			return Space{}, false
		}
	}
	var all []int
	for x := range 1 << issues {
		if !slices.ContainsFunc(parts, func(p Part) bool { return hasPart(x, p) }) {
			all = append(all, x)
		}
	}
	if len(all) == 0 {
		return Space{}, false
	}
	return Space{Issues: issues, All: all}, true
}

// IsMedian reports whether what most of three say may be.
func IsMedian(s Space) bool {
	return ValidSpace(s) && len(joinedOnce(s.All, mostOfThree)) == len(s.All)
}

// IsEven reports whether the sum of three may be.
func IsEven(s Space) bool {
	return ValidSpace(s) && len(joinedOnce(s.All, sumOfThree)) == len(s.All)
}

// GapOf returns how many answers differ.
func GapOf(x int, y int) int {
	if !isJudgment(MaxIssues, x) || !isJudgment(MaxIssues, y) {
		return -1
	}
	return bits.OnesCount(uint(x ^ y))
}

// BetweenOf returns the judgments between two.
func BetweenOf(s Space, x int, y int) []int {
	return HullOf(s, []int{x, y})
}

// NearestTo returns the judgments that are nearest.
func NearestTo(s Space, x int) []int {
	if !ValidSpace(s) || !isJudgment(s.Issues, x) {
		return nil
	}
	least := GapOf(x, s.All[0])
	for _, y := range s.All {
		least = min(least, GapOf(x, y))
	}
	return picked(s.All, func(y int) bool { return GapOf(x, y) == least })
}

// LeadsOf returns to which answers each answer leads.
func LeadsOf(s Space) []int {
	if !ValidSpace(s) {
		return nil
	}
	leads := make([]int, 2*s.Issues)
	for _, p := range CriticalParts(s) {
		places := placesOf(s.Issues, p)
		for _, from := range places {
			for _, other := range places {
				if from != other {
					leads[from] |= 1 << oppositePlace(other)
				}
			}
		}
	}
	followLeads(leads)
	return leads
}

// IsBlocked reports whether all answers lead to all.
func IsBlocked(s Space) bool {
	if !ValidSpace(s) {
		return false
	}
	leads := LeadsOf(s)
	for place, led := range leads {
		// Whether an answer leads back to itself does not matter.
		if led|1<<place != 1<<len(leads)-1 {
			return false
		}
	}
	return true
}

// DropIssue returns a space without an issue.
func DropIssue(s Space, j int) (Space, bool) {
	if !hasIssue(s, j) || s.Issues < 2 {
		return Space{}, false
	}
	lower := 1<<j - 1
	return spaceOf(s.Issues-1, s.All, func(x int) int { return x&lower | x>>1&^lower }), true
}

// FlipIssue returns a space with the other answers to an issue.
func FlipIssue(s Space, j int) (Space, bool) {
	if !hasIssue(s, j) {
		return Space{}, false
	}
	return spaceOf(s.Issues, s.All, func(x int) int { return x ^ 1<<j }), true
}

// CrossSpaces returns the space of judgments of two spaces.
func CrossSpaces(a Space, b Space) (Space, bool) {
	if !ValidSpace(a) || !ValidSpace(b) || a.Issues+b.Issues > MaxIssues {
		return Space{}, false
	}
	var all []int
	for _, y := range b.All {
		for _, x := range a.All {
			all = append(all, x|y<<a.Issues)
		}
	}
	return Space{Issues: a.Issues + b.Issues, All: all}, true
}

// SpaceText returns the text of a space.
func SpaceText(s Space) string {
	if !ValidSpace(s) {
		return ""
	}
	return strconv.Itoa(s.Issues) + ":" + numbersText(s.All)
}

// ParseSpace returns the space of a text.
func ParseSpace(s string) (Space, bool) {
	head, tail, _ := strings.Cut(s, ":")
	issues, isNumber := parseNumber(head)
	all, areNumbers := parseNumbers(tail)
	out := Space{Issues: issues, All: all}
	if !isNumber || !areNumbers || !ValidSpace(out) {
		return Space{}, false
	}
	return out, true
}

// HullOf returns the judgments that give what all of some give.
func HullOf(s Space, list []int) []int {
	if !ValidSpace(s) || len(list) == 0 || len(list) > MaxParts {
		return nil
	}
	common := Part{Care: 1<<s.Issues - 1, Bits: list[0]}
	for _, x := range list {
		if !slices.Contains(s.All, x) {
			return nil
		}
		common.Care &^= x ^ list[0]
	}
	common.Bits &= common.Care
	return picked(s.All, func(x int) bool { return hasPart(x, common) })
}

// MedianClosure returns the least median space of all judgments of a space.
func MedianClosure(s Space) Space {
	return closureOf(s, mostOfThree)
}

// EvenClosure returns the least even space of all judgments of a space.
func EvenClosure(s Space) Space {
	return closureOf(s, sumOfThree)
}

// validIssues reports whether a number of issues is allowed.
func validIssues(issues int) bool {
	return issues >= 1 && issues <= MaxIssues
}

// isJudgment reports whether x answers so many issues, at most MaxIssues, and no others.
func isJudgment(issues int, x int) bool {
	return x >= 0 && x < 1<<issues
}

// isPart reports whether p is a part of judgments about so many issues.
func isPart(issues int, p Part) bool {
	return isJudgment(issues, p.Care) && p.Bits&^p.Care == 0
}

// hasIssue reports whether s is valid and has the issue j.
func hasIssue(s Space, j int) bool {
	return ValidSpace(s) && j >= 0 && j < s.Issues
}

// hasPart reports whether the judgment x has all answers of the part p.
func hasPart(x int, p Part) bool {
	return x&p.Care == p.Bits
}

// openAsker returns a function that reports whether a judgment of s has all answers of a part.
func openAsker(s Space) func(p Part) bool {
	return func(p Part) bool {
		return slices.ContainsFunc(s.All, func(x int) bool { return hasPart(x, p) })
	}
}

// numbersText returns the numbers in decimal, with a comma between two of them.
func numbersText(list []int) string {
	texts := make([]string, len(list))
	for i, x := range list {
		texts[i] = strconv.Itoa(x)
	}
	return strings.Join(texts, ",")
}

// parseNumbers returns the numbers, at least one, of which numbersText is the text, and whether there are such.
func parseNumbers(text string) ([]int, bool) {
	var list []int
	for _, part := range strings.Split(text, ",") {
		x, ok := parseNumber(part)
		if !ok {
			return nil, false
		}
		list = append(list, x)
	}
	return list, true
}

// parseNumber returns the number that is written so in decimal, and whether there is one.
func parseNumber(text string) (int, bool) {
	x, err := strconv.Atoi(text)
	// Atoi also takes a plus sign and leading zeros, with which no number is written.
	if err != nil || strconv.Itoa(x) != text {
		return 0, false
	}
	return x, true
}

// picked returns those of the list that are wanted, in order.
func picked(list []int, isWanted func(x int) bool) []int {
	var out []int
	for _, x := range list {
		if isWanted(x) {
			out = append(out, x)
		}
	}
	return out
}

// partsInOrder returns all parts of judgments, by the number of issues, then by Care, then by Bits.
func partsInOrder(issues int) []Part {
	var list []Part
	for size := range issues + 1 {
		for care := range 1 << issues {
			if bits.OnesCount(uint(care)) != size {
				continue
			}
			for given := range care + 1 {
				if given&^care == 0 {
					list = append(list, Part{Care: care, Bits: given})
				}
			}
		}
	}
	return list
}

// dropGreater deletes from the parts those that have all answers of p, and more.
func dropGreater(parts map[Part]bool, p Part) {
	for q := range parts {
		if q != p && p.Care&^q.Care == 0 && hasPart(q.Bits, p) {
			delete(parts, q)
		}
	}
}

// placesOf returns the places of the answers of a part in the order of LeadsOf.
func placesOf(issues int, p Part) []int {
	var places []int
	for j := range issues {
		if p.Care>>j&1 == 1 {
			places = append(places, 2*j+p.Bits>>j&1)
		}
	}
	return places
}

// oppositePlace returns the place of the other answer to the same issue.
func oppositePlace(place int) int {
	return place ^ 1
}

// followLeads adds to the leads of each answer those of the answers to which it leads, as far as they go.
func followLeads(leads []int) {
	for through := range leads {
		for from := range leads {
			if leads[from]>>through&1 == 1 {
				leads[from] |= leads[through]
			}
		}
	}
}

// mostOfThree gives each answer that at least two of three judgments give.
func mostOfThree(x int, y int, z int) int {
	return x&y | x&z | y&z
}

// sumOfThree answers 1 where one or all of three judgments do.
func sumOfThree(x int, y int, z int) int {
	return x ^ y ^ z
}

// joinedOnce returns the list, which is ascending, with what each three different ones of it make, ascending.
// Three of which two are the same need no look: by both joins they make one of themselves.
func joinedOnce(list []int, join func(x int, y int, z int) int) []int {
	var has [1 << MaxIssues]bool
	for i, x := range list {
		has[x] = true
		for j, y := range list[:i] {
			for _, z := range list[:j] {
				has[join(x, y, z)] = true
			}
		}
	}
	var out []int
	for x, in := range has {
		if in {
			out = append(out, x)
		}
	}
	return out
}

// closureOf returns the least space with all judgments of s and all that three of its own make.
func closureOf(s Space, join func(x int, y int, z int) int) Space {
	if !ValidSpace(s) {
		return Space{}
	}
	all := s.All
	for {
		more := joinedOnce(all, join)
		if len(more) == len(all) {
			return Space{Issues: s.Issues, All: more}
		}
		all = more
	}
}

// spaceOf returns the space of what each judgment of the list becomes.
func spaceOf(issues int, list []int, change func(x int) int) Space {
	all := make([]int, len(list))
	for i, x := range list {
		all[i] = change(x)
	}
	slices.Sort(all)
	return Space{Issues: issues, All: slices.Compact(all)}
}
