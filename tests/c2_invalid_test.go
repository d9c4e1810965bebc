package tests

import (
	"math"
	"slices"
	"testing"

	"loop.example/jointjudgments/impl"
)

// checkNoVotes checks the fixed result of each function for what are no votes in the space.
func checkNoVotes(t *testing.T, s impl.Space, votes []int) {
	t.Helper()
	if impl.ValidVotes(s, votes) || impl.IsSettled(s, votes) {
		t.Errorf("a report of %v in %v is true", votes, s)
	}
	wantNums(t, "SupportOf", impl.SupportOf(s, votes))
	wantNums(t, "MedianRule", impl.MedianRule(s, votes))
	wantNums(t, "MiddleRule", impl.MiddleRule(s, votes))
	wantNums(t, "KeptRule", impl.KeptRule(s, votes))
	wantNums(t, "SlaterRule", impl.SlaterRule(s, votes))
	wantNumber(t, "MajorityOf", impl.MajorityOf(s, votes), -1)
	wantNumber(t, "RankedRule", impl.RankedRule(s, votes), -1)
	if p := impl.WantedPart(s, votes); p != (impl.Part{}) {
		t.Errorf("WantedPart(%v, %v) = %v", s, votes, p)
	}
	if line, ok := impl.LineOf(s, votes); ok || len(line) != 0 {
		t.Errorf("LineOf(%v, %v) = %v, %v", s, votes, line, ok)
	}
	for n := range maxIssues + 1 {
		wantNumber(t, "QuotaOf", impl.QuotaOf(s, votes, slices.Repeat([]int{1}, n)), -1)
		wantNumber(t, "TurnRule", impl.TurnRule(s, votes, ordersOf(n)[0]), -1)
		if x, ok := impl.PremiseRule(s, votes, 1<<n-1); ok || x != 0 {
			t.Errorf("PremiseRule(%v, %v) = %d, %v", s, votes, x, ok)
		}
	}
}

func TestVotesThatAreNotValid(t *testing.T) {
	for _, s := range invalidSpaces() {
		for _, votes := range [][]int{nil, {0}, {1}, {-1}, {0, 0}, s.All} {
			checkNoVotes(t, s, votes)
		}
	}
	for _, text := range []string{"1:0", "1:1", "1:0,1", "2:0,3", "2:0,1,2,3", andText, cycleText, "3:7", "4:15", allFour} {
		s := space(t, text)
		for _, votes := range invalidVotes(s) {
			checkNoVotes(t, s, votes)
		}
	}
}

func TestQuotasThatAreNotValid(t *testing.T) {
	s := space(t, andText)
	for n := 1; n <= maxVotes; n++ {
		votes := slices.Repeat([]int{7}, n)
		lists := [][]int{nil, {}, {1}, {1, 1}, {1, 1, 1, 1}, make([]int, 100)}
		for j := range s.Issues {
			for _, q := range []int{0, -1, n + 1, math.MaxInt, math.MinInt} {
				quotas := []int{n, n, n}
				quotas[j] = q
				lists = append(lists, quotas)
			}
		}
		for _, quotas := range lists {
			wantNumber(t, "QuotaOf of no quotas", impl.QuotaOf(s, votes, quotas), -1)
			if impl.IsQuotaSafe(s, n, quotas) {
				t.Errorf("IsQuotaSafe(%d, %v) is true", n, quotas)
			}
		}
		wantNumber(t, "QuotaOf at the limit", impl.QuotaOf(s, votes, []int{n, n, n}), 7)
		if !impl.IsQuotaSafe(s, n, []int{n, n, n}) {
			t.Errorf("IsQuotaSafe(%d) of all is false", n)
		}
	}
}

func TestNumbersOfVotesThatAreNotValid(t *testing.T) {
	all := space(t, allFour)
	for _, n := range append(farNumbers(), 0, maxVotes+1) {
		for _, q := range []int{1, n} {
			if impl.IsQuotaSafe(all, n, []int{q, q, q, q}) {
				t.Errorf("IsQuotaSafe(%d) is true", n)
			}
		}
	}
	if !impl.IsQuotaSafe(all, maxVotes, []int{1, 5, 3, 1}) || !impl.IsQuotaSafe(all, 1, []int{1, 1, 1, 1}) {
		t.Error("IsQuotaSafe at the limit is false")
	}
	for _, s := range invalidSpaces() {
		for n := range maxIssues + 2 {
			if impl.IsQuotaSafe(s, 1, slices.Repeat([]int{1}, n)) {
				t.Errorf("IsQuotaSafe(%v) is true", s)
			}
		}
	}
}

func TestOrdersThatAreNotValid(t *testing.T) {
	s := space(t, andText)
	lists := [][]int{nil, {}, {0}, {0, 1}, {0, 1, 2, 2}, {0, 1, 2, 3}, {0, 0, 0}, {0, 0, 1}, {2, 1, 1}, {1, 2, 3}, {0, 1, 3}, {-1, 0, 1}, make([]int, 100)}
	for _, j := range farNumbers() {
		lists = append(lists, []int{j, 1, 2}, []int{0, j, 1}, []int{1, 2, j}, []int{0, 1, 2, j})
	}
	for _, order := range lists {
		wantNumber(t, "TurnRule of no order", impl.TurnRule(s, []int{7}, order), -1)
	}
	for _, order := range ordersOf(3) {
		wantNumber(t, "TurnRule of an order", impl.TurnRule(s, []int{7}, order), 7)
	}
}

func TestPremisesThatAreNotValid(t *testing.T) {
	for issues := 1; issues <= maxIssues; issues++ {
		s := spaceOfMask(issues, 2)
		for _, premises := range append(farNumbers(), 1<<issues, 1<<issues+1) {
			if x, ok := impl.PremiseRule(s, []int{1}, premises); ok || x != 0 {
				t.Errorf("PremiseRule(%v, %d) = %d, %v", s, premises, x, ok)
			}
		}
		for premises := range 1 << issues {
			if x, ok := impl.PremiseRule(s, []int{1}, premises); !ok || x != 1 {
				t.Errorf("PremiseRule(%v, %d) = %d, %v", s, premises, x, ok)
			}
		}
	}
}

// TestMemoryOfVotes checks that no function changes its arguments, keeps them, or gives parts of them out.
func TestMemoryOfVotes(t *testing.T) {
	calls := map[string]func(s impl.Space, list []int) []int{
		"SupportOf":  impl.SupportOf,
		"MedianRule": impl.MedianRule,
		"MiddleRule": impl.MiddleRule,
		"KeptRule":   impl.KeptRule,
		"SlaterRule": impl.SlaterRule,
		"LineOf":     func(s impl.Space, list []int) []int { line, _ := impl.LineOf(s, list); return line },
		"others": func(s impl.Space, list []int) []int {
			x, _ := impl.PremiseRule(s, list, 1)
			p := impl.WantedPart(s, list)
			return []int{impl.MajorityOf(s, list), impl.RankedRule(s, list), x, p.Care, p.Bits}
		},
		"QuotaOf": func(s impl.Space, list []int) []int {
			return []int{impl.QuotaOf(s, []int{s.All[0], s.All[0], s.All[0]}, list)}
		},
		"TurnRule": func(s impl.Space, list []int) []int { return []int{impl.TurnRule(s, s.All[:1], list)} },
	}
	all := space(t, "3:0,1,2,3,4,5,6,7")
	for name, call := range calls {
		for _, argument := range [][]int{{1}, {2, 1}, {2, 0, 1}, {3, 1, 2}, {7, 0, 5, 1, 7}} {
			judgments, memory := filled(all.All)
			list, listMemory := filled(argument)
			before, listBefore := slices.Clone(memory), slices.Clone(listMemory)
			s := impl.Space{Issues: all.Issues, All: judgments}
			got := call(s, list)
			want := slices.Clone(got)
			spoil(got)
			if !slices.Equal(memory, before) || !slices.Equal(listMemory, listBefore) {
				t.Errorf("%s of %v changes its arguments, or gives them out", name, argument)
			}
			wantNums(t, name+" once more", call(s, list), want...)
		}
	}
}
