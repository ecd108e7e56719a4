package watch_test

import (
	"testing"

	"riffle/api"
	"riffle/watch"
)

// P11.3

func TestTheLeastOfSeveral(t *testing.T) {
	l := []numbered{
		{2, api.Break{Proc: 3, Kind: -1, Time: 0}},
		{5, api.Break{Proc: 2, Kind: 1, Time: 50}},
		{6, api.Break{Proc: 2, Kind: 1, Time: 40}},
		{9, api.Break{Proc: 0, Kind: 1, Time: 30}},
		{12, api.Break{Proc: 2, Kind: -1, Time: 20}},
		{last - 1, api.Break{Kind: -1, Time: 10}},
		{last, api.Break{Kind: 6, Time: 0}},
	}
	for seed := range int64(50) {
		w := of(t, shuffled(l, seed)...)
		mustMatch(t, w, event(60, 2, 1), 5)
		mustMatch(t, w, event(50, 2, 1), 5)
		mustMatch(t, w, event(49, 2, 1), 6)
		mustMatch(t, w, event(39, 2, 1), 9)
		mustMatch(t, w, event(29, 2, 1), 12)
		mustMatch(t, w, event(60, 2, 2), 12)
		mustMatch(t, w, event(60, 1, 1), 9)
		mustMatch(t, w, event(19, 2, 1), last-1)
		mustMatch(t, w, event(10, 1, 0), last-1)
		mustMatch(t, w, event(10, 1, 6), last-1)
		mustMatch(t, w, event(9, 1, 6), last)
		mustMatch(t, w, event(0, 3, 0), 2)
		mustNotMatch(t, w, event(9, 1, 0))
		mustNotMatch(t, w, event(9, 2, 1))
		mustHave(t, w, l...)
	}
}

func TestTheLeastOfAlikeOnes(t *testing.T) {
	var l []numbered
	for i := range api.MaxBreaks {
		l = append(l, numbered{uint32(10 * (i + 1)), every})
	}
	for seed := range int64(20) {
		w := of(t, shuffled(l, seed)...)
		for _, x := range l {
			mustMatch(t, w, event(0, 1, 0), x.id)
			mustClear(t, w, x.id)
		}
		mustNotMatch(t, w, event(0, 1, 0))
	}
}

func TestNumber0Matches(t *testing.T) {
	w := of(t, numbered{1, every}, numbered{0, api.Break{Proc: 2, Kind: -1}})
	mustMatch(t, w, event(5, 2, 0), 0)
	mustMatch(t, w, event(5, 1, 0), 1)
	mustClear(t, w, 0)
	mustMatch(t, w, event(5, 2, 0), 1)
	mustClear(t, w, 1)
	mustNotMatch(t, w, event(5, 2, 0))
}

func TestNumbersAreNotBelow0(t *testing.T) {
	w := of(t, numbered{last, every}, numbered{1 << 31, every}, numbered{1, every})
	mustMatch(t, w, event(5, 2, 0), 1)
	mustClear(t, w, 1)
	mustMatch(t, w, event(5, 2, 0), 1<<31)
	mustClear(t, w, 1<<31)
	mustMatch(t, w, event(5, 2, 0), last)
}

func TestNoneThatMatches(t *testing.T) {
	w := of(t, numbered{4, api.Break{Proc: 2, Kind: 3, Time: 10}}, numbered{5, api.Break{Proc: 3, Kind: 2, Time: 5}})
	for _, e := range []api.Event{event(9, 2, 3), event(10, 2, 2), event(10, 3, 3), event(4, 3, 2), event(10, 1, 1)} {
		mustNotMatch(t, w, e)
	}
}

func TestOneThatWasClearedMatchesNoMore(t *testing.T) {
	w := of(t, numbered{4, every}, numbered{8, api.Break{Proc: 2, Kind: -1}})
	mustMatch(t, w, event(1, 2, 0), 4)
	mustClear(t, w, 4)
	mustMatch(t, w, event(1, 2, 0), 8)
	mustNotMatch(t, w, event(1, 1, 0))
	mustSet(t, w, 4, api.Break{Proc: 1, Kind: -1})
	mustMatch(t, w, event(1, 1, 0), 4)
	mustMatch(t, w, event(1, 2, 0), 8)
}

func TestARefusedOneMatchesNothing(t *testing.T) {
	w := of(t, numbered{4, api.Break{Proc: 2, Kind: -1}})
	mustNotSet(t, w, 4, every, api.ErrTwice)
	mustNotSet(t, w, 1, api.Break{Kind: -1, Time: -1}, api.ErrArg)
	mustNotMatch(t, w, event(5, 1, 0))
	mustMatch(t, w, event(5, 2, 0), 4)
}

func TestMatchOfNone(t *testing.T) {
	for _, w := range []*watch.Watch{nil, {}, watch.New()} {
		for _, e := range []api.Event{{}, event(0, 1, 0), event(api.MaxTime, api.MaxProcs, api.MaxKinds-1), event(least, least, least), event(most, most, most)} {
			mustNotMatch(t, w, e)
		}
	}
}
