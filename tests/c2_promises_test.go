package tests

import (
	"slices"
	"testing"

	"loop.example/jointjudgments/impl"
)

func TestPromise22VotesCanBeCut(t *testing.T) {
	t.Parallel()
	eachPoll(func(s impl.Space, votes []int) {
		for n := len(votes); n > 0; n-- {
			if !impl.ValidVotes(s, votes[:n]) {
				t.Fatalf("ValidVotes(%v, %v) is false", s, votes[:n])
			}
		}
		// The last one of all cannot be cut, and what is no judgment of the space is no vote before and after.
		if impl.ValidVotes(s, votes[:0]) || impl.ValidVotes(s, append([]int{1 << s.Issues}, votes[1:]...)) {
			t.Fatalf("ValidVotes of what are no votes in %v", s)
		}
	})
	someSpaces(307, func(s impl.Space) {
		for _, list := range invalidVotes(s) {
			if impl.ValidVotes(s, list) {
				t.Fatalf("ValidVotes(%v, %v) is true", s, list)
			}
		}
	})
}

func TestPromise23SupportsAreAtMostAllVotes(t *testing.T) {
	t.Parallel()
	eachPoll(func(s impl.Space, votes []int) {
		support := impl.SupportOf(s, votes)
		if len(support) != s.Issues {
			t.Fatalf("SupportOf(%v, %v) = %v", s, votes, support)
		}
		together, ones := 0, 0
		for _, count := range support {
			if count < 0 || count > len(votes) {
				t.Fatalf("SupportOf(%v, %v) = %v", s, votes, support)
			}
			together += count
		}
		for _, x := range votes {
			ones += onesOf(x)
		}
		if together != ones {
			t.Fatalf("SupportOf(%v, %v) = %v, together not %d", s, votes, support, ones)
		}
	})
	// One vote, all of one opinion, and none.
	wantNums(t, "SupportOf one", impl.SupportOf(space(t, andText), []int{2}), 0, 1, 0)
	wantNums(t, "SupportOf five", impl.SupportOf(space(t, andText), []int{7, 7, 7, 7, 7}), 5, 5, 5)
	wantNums(t, "SupportOf none", impl.SupportOf(space(t, andText), nil))
}

func TestPromise24MajoritiesOfOddVotesAreSettledWhereTheyMayBe(t *testing.T) {
	t.Parallel()
	times := map[bool]int{}
	eachPoll(func(s impl.Space, votes []int) {
		majority, settled := impl.MajorityOf(s, votes), impl.IsSettled(s, votes)
		if len(votes)%2 == 0 {
			return
		}
		times[settled]++
		if impl.InSpace(s, majority) != settled {
			t.Fatalf("MajorityOf(%v, %v) = %d, IsSettled = %v", s, votes, majority, settled)
		}
		if impl.IsMedian(s) && !settled {
			t.Fatalf("IsSettled(%v, %v) is false", s, votes)
		}
	})
	if times[true] == 0 || times[false] == 0 {
		t.Errorf("of odd votes, %v are settled", times)
	}
	// With as many votes for as against, what is settled may be no majority.
	s := space(t, "2:1,2")
	if !impl.IsSettled(s, []int{1, 2}) || impl.MajorityOf(s, []int{1, 2}) != 0 || impl.InSpace(s, 0) {
		t.Errorf("MajorityOf of even votes = %d", impl.MajorityOf(s, []int{1, 2}))
	}
	// What are no votes is not settled, although the part of no issue is open.
	if impl.IsSettled(s, nil) || impl.IsSettled(s, []int{0}) || impl.MajorityOf(s, nil) != -1 {
		t.Error("MajorityOf or IsSettled of no votes")
	}
}

func TestPromise25QuotasAreGroups(t *testing.T) {
	t.Parallel()
	eachPoll(func(s impl.Space, votes []int) {
		n := len(votes)
		half := slices.Repeat([]int{n/2 + 1}, s.Issues)
		if got := impl.QuotaOf(s, votes, half); got != impl.MajorityOf(s, votes) {
			t.Fatalf("QuotaOf(%v, %v, %v) = %d", s, votes, half, got)
		}
		for j := range s.Issues {
			before := 1<<s.Issues - 1
			for q := 1; q <= n; q++ {
				quotas := slices.Clone(half)
				quotas[j] = q
				got := impl.QuotaOf(s, votes, quotas)
				if got < 0 || got&^before != 0 {
					t.Fatalf("QuotaOf(%v, %v, %v) = %d, after %d", s, votes, quotas, got, before)
				}
				before = got
			}
			for _, q := range []int{0, -1, n + 1} {
				quotas := slices.Clone(half)
				quotas[j] = q
				if got := impl.QuotaOf(s, votes, quotas); got != -1 {
					t.Fatalf("QuotaOf(%v, %v, %v) = %d", s, votes, quotas, got)
				}
			}
		}
	})
}

func TestPromise27MediansAreMajoritiesWhereTheseMayBe(t *testing.T) {
	t.Parallel()
	eachPoll(func(s impl.Space, votes []int) {
		list := impl.MedianRule(s, votes)
		if len(list) == 0 || !slices.IsSorted(list) || !isAmong(list, s.All) || !isAmong(list, impl.KeptRule(s, votes)) {
			t.Fatalf("MedianRule(%v, %v) = %v, KeptRule = %v", s, votes, list, impl.KeptRule(s, votes))
		}
		if !impl.IsSettled(s, votes) {
			return
		}
		wanted := impl.WantedPart(s, votes)
		for _, x := range s.All {
			if gives(s.Issues, x, wanted) != slices.Contains(list, x) {
				t.Fatalf("MedianRule(%v, %v) = %v, but %d", s, votes, list, x)
			}
		}
	})
	// One vote is its own median; votes that differ in all have all medians between them.
	wantNums(t, "MedianRule of one", impl.MedianRule(space(t, andText), []int{2}), 2)
	wantNums(t, "MedianRule of opposites", impl.MedianRule(space(t, andText), []int{0, 7}), 0, 1, 2, 7)
	wantNums(t, "MedianRule of no votes", impl.MedianRule(space(t, andText), []int{3}))
}

func TestPromise28VotesThatAreOneAreTheMiddle(t *testing.T) {
	t.Parallel()
	eachPoll(func(s impl.Space, votes []int) {
		same := slices.Repeat(votes[:1], len(votes))
		if got := impl.MiddleRule(s, same); !slices.Equal(got, votes[:1]) {
			t.Fatalf("MiddleRule(%v, %v) = %v", s, same, got)
		}
		turned := slices.Clone(votes)
		slices.Reverse(turned)
		moved := append(slices.Clone(votes[1:]), votes[0])
		got := impl.MiddleRule(s, votes)
		if !slices.Equal(impl.MiddleRule(s, turned), got) || !slices.Equal(impl.MiddleRule(s, moved), got) {
			t.Fatalf("MiddleRule(%v, %v) = %v, but not of the votes turned", s, votes, got)
		}
	})
	wantNums(t, "MiddleRule of no votes", impl.MiddleRule(space(t, andText), nil))
	wantNums(t, "MiddleRule of six", impl.MiddleRule(space(t, andText), []int{1, 1, 1, 1, 1, 1}))
}

func TestPromise29OddVotesWantAnAnswerToAllIssues(t *testing.T) {
	t.Parallel()
	eachPoll(func(s impl.Space, votes []int) {
		wanted := impl.WantedPart(s, votes)
		if !impl.ValidPart(s, wanted) || wanted.Bits != impl.MajorityOf(s, votes)&wanted.Care {
			t.Fatalf("WantedPart(%v, %v) = %v", s, votes, wanted)
		}
		if len(votes)%2 == 1 && wanted.Care != 1<<s.Issues-1 {
			t.Fatalf("WantedPart(%v, %v) = %v of odd votes", s, votes, wanted)
		}
		for j, count := range impl.SupportOf(s, votes) {
			if (answer(wanted.Care, j) == 0) != (2*count == len(votes)) {
				t.Fatalf("WantedPart(%v, %v) = %v, but %d say 1 to %d", s, votes, wanted, count, j)
			}
		}
	})
	if p := impl.WantedPart(space(t, "2:1,2"), []int{1, 2, 2, 1}); p != (impl.Part{}) {
		t.Errorf("WantedPart of as many for as against = %v", p)
	}
	if p := impl.WantedPart(space(t, "2:1,2"), []int{3}); p != (impl.Part{}) {
		t.Errorf("WantedPart of no votes = %v", p)
	}
}

func TestPromise30MedianSpacesAreAlwaysSettled(t *testing.T) {
	t.Parallel()
	times := map[bool]int{}
	eachPoll(func(s impl.Space, votes []int) {
		settled := impl.IsSettled(s, votes)
		times[settled]++
		if impl.IsMedian(s) && !settled {
			t.Fatalf("IsSettled(%v, %v) is false", s, votes)
		}
		for _, x := range impl.SlaterRule(s, votes) {
			if gives(s.Issues, x, impl.WantedPart(s, votes)) != settled {
				t.Fatalf("IsSettled(%v, %v) = %v, SlaterRule has %d", s, votes, settled, x)
			}
		}
	})
	if times[true] == 0 || times[false] == 0 {
		t.Errorf("of all votes, %v are settled", times)
	}
	for _, votes := range invalidVotes(space(t, "2:0,1,3")) {
		if impl.IsSettled(space(t, "2:0,1,3"), votes) {
			t.Errorf("IsSettled of %v, which are no votes", votes)
		}
	}
}

func TestPromise31WhatIsKeptCannotBeMore(t *testing.T) {
	t.Parallel()
	eachPoll(func(s impl.Space, votes []int) {
		kept, wanted := impl.KeptRule(s, votes), wantedByWords(s, votes)
		if !slices.Contains(kept, impl.RankedRule(s, votes)) || !isAmong(impl.SlaterRule(s, votes), kept) || !isAmong(kept, s.All) {
			t.Fatalf("KeptRule(%v, %v) = %v", s, votes, kept)
		}
		for _, x := range s.All {
			more := slices.ContainsFunc(s.All, func(y int) bool { return keepsMoreByWords(wanted, y, x) })
			if more == slices.Contains(kept, x) {
				t.Fatalf("KeptRule(%v, %v) = %v, but %d", s, votes, kept, x)
			}
		}
	})
	// With as many votes for as against each issue, nothing is wanted, and all judgments keep it.
	wantNums(t, "KeptRule of opposites", impl.KeptRule(space(t, cycleText), []int{1, 6}), 1, 2, 3, 4, 5, 6)
	wantNums(t, "KeptRule of no votes", impl.KeptRule(space(t, cycleText), []int{0}))
}

func TestPromise32TheMostWantedAnswersAreKept(t *testing.T) {
	t.Parallel()
	eachPoll(func(s impl.Space, votes []int) {
		list, wanted := impl.SlaterRule(s, votes), wantedByWords(s, votes)
		if len(list) == 0 || !slices.IsSorted(list) || !isAmong(list, impl.KeptRule(s, votes)) {
			t.Fatalf("SlaterRule(%v, %v) = %v", s, votes, list)
		}
		most := len(givenOf(wanted, list[0]))
		for _, x := range s.All {
			is, many := slices.Contains(list, x), len(givenOf(wanted, x))
			if is && many != most || !is && many >= most {
				t.Fatalf("SlaterRule(%v, %v) = %v, but %d gives %d", s, votes, list, x, many)
			}
		}
	})
	wantNums(t, "SlaterRule of opposites", impl.SlaterRule(space(t, cycleText), []int{1, 6}), 1, 2, 3, 4, 5, 6)
	wantNums(t, "SlaterRule of no votes", impl.SlaterRule(space(t, cycleText), nil))
}

func TestPromise33IssuesInTurnLeadToAJudgment(t *testing.T) {
	t.Parallel()
	eachPoll(func(s impl.Space, votes []int) {
		must := len(votes)%2 == 1 && impl.IsSettled(s, votes)
		for _, order := range ordersOf(s.Issues) {
			x := impl.TurnRule(s, votes, order)
			if !impl.InSpace(s, x) || must && x != impl.MajorityOf(s, votes) {
				t.Fatalf("TurnRule(%v, %v, %v) = %d", s, votes, order, x)
			}
			// The first issue is answered as the votes say, if a judgment does.
			first := impl.Part{Care: 1 << order[0], Bits: impl.MajorityOf(s, votes) & (1 << order[0])}
			if impl.IsOpen(s, first) && !gives(s.Issues, x, first) {
				t.Fatalf("TurnRule(%v, %v, %v) = %d", s, votes, order, x)
			}
		}
	})
	for _, order := range [][]int{nil, {0, 1}, {0, 1, 2, 3}, {0, 1, 1}, {1, 2, 3}, {-1, 0, 1}} {
		wantNumber(t, "TurnRule of no order", impl.TurnRule(space(t, andText), []int{1}, order), -1)
	}
}

func TestPromise34TheClearestIssuesFirstKeepWhatCanBeKept(t *testing.T) {
	t.Parallel()
	eachPoll(func(s impl.Space, votes []int) {
		x := impl.RankedRule(s, votes)
		if !slices.Contains(impl.KeptRule(s, votes), x) {
			t.Fatalf("RankedRule(%v, %v) = %d, KeptRule = %v", s, votes, x, impl.KeptRule(s, votes))
		}
		// All of one opinion come first, so what all say is kept.
		if !slices.Contains(impl.HullOf(s, votes), x) {
			t.Fatalf("RankedRule(%v, %v) = %d, not what all say", s, votes, x)
		}
	})
	// An issue with as many votes for as against comes last, also if it is the least one.
	wantNumber(t, "RankedRule", impl.RankedRule(space(t, "2:0,3"), []int{3, 3, 0, 0}), 0)
	wantNumber(t, "RankedRule", impl.RankedRule(space(t, "3:0,2,5,6"), []int{5, 6}), 6)
	wantNumber(t, "RankedRule of no votes", impl.RankedRule(space(t, andText), []int{3}), -1)
}

func TestPromise35PremisesAreMajorities(t *testing.T) {
	t.Parallel()
	eachPoll(func(s impl.Space, votes []int) {
		majority := impl.MajorityOf(s, votes)
		for premises := range 1 << s.Issues {
			x, ok := impl.PremiseRule(s, votes, premises)
			given := impl.Part{Care: premises, Bits: majority & premises}
			others := 0
			for _, y := range s.All {
				if gives(s.Issues, y, given) && !(ok && y == x) {
					others++
				}
			}
			if ok && (!impl.InSpace(s, x) || !gives(s.Issues, x, given) || others != 0) || !ok && (x != 0 || others == 1) {
				t.Fatalf("PremiseRule(%v, %v, %d) = %d, %v, and %d others", s, votes, premises, x, ok, others)
			}
		}
	})
	for _, premises := range []int{-1, 8, 9, 1 << 62} {
		if x, ok := impl.PremiseRule(space(t, "3:7"), []int{7}, premises); ok || x != 0 {
			t.Errorf("PremiseRule of the premises %d = %d, %v", premises, x, ok)
		}
	}
}

func TestPromise36TheMiddleOfALineIsTheMajority(t *testing.T) {
	t.Parallel()
	times := map[bool]int{}
	eachPoll(func(s impl.Space, votes []int) {
		line, ok := impl.LineOf(s, votes)
		if !ok {
			if len(line) != 0 || len(votes) < 3 {
				t.Fatalf("LineOf(%v, %v) = %v, %v", s, votes, line, ok)
			}
			times[false]++
			return
		}
		if !slices.Equal(slices.Sorted(slices.Values(line)), ordersOf(len(votes))[0]) || !isLine(s, votes, line) {
			t.Fatalf("LineOf(%v, %v) = %v", s, votes, line)
		}
		if len(votes)%2 == 1 {
			times[true]++
			if votes[line[len(line)/2]] != impl.MajorityOf(s, votes) || !impl.IsSettled(s, votes) {
				t.Fatalf("LineOf(%v, %v) = %v, MajorityOf = %d", s, votes, line, impl.MajorityOf(s, votes))
			}
		}
	})
	if times[true] == 0 || times[false] == 0 {
		t.Errorf("of all votes, %v have a line", times)
	}
	if line, ok := impl.LineOf(space(t, andText), nil); ok || len(line) != 0 {
		t.Errorf("LineOf no votes = %v, %v", line, ok)
	}
}
