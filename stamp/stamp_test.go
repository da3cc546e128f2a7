package stamp_test

import (
	"math"
	"slices"
	"testing"

	"almonry/api"
	"almonry/stamp"
)

// at is the stamp of these parts.
func at(time, count, replica int) api.Stamp {
	return api.Stamp{Time: time, Count: count, Replica: replica}
}

// all are the stamps of each of these times, counts and replicas.
func all(times, counts, replicas []int) []api.Stamp {
	var l []api.Stamp
	for _, time := range times {
		for _, count := range counts {
			for _, replica := range replicas {
				l = append(l, at(time, count, replica))
			}
		}
	}
	return l
}

// times are numbers that a time, or a count, may be.
func times() []int {
	return []int{0, 1, 2, 15, 16, 1<<32 + 5, api.MaxTime - 1, api.MaxTime}
}

// wrongTimes are numbers that no time, and no count, may be.
func wrongTimes() []int {
	return []int{math.MinInt, math.MinInt + 1, -api.MaxTime, -1, api.MaxTime + 1, 2 * api.MaxTime, api.MaxNum, math.MaxInt - 1, math.MaxInt}
}

// wrongReplicas are numbers that no replica has.
func wrongReplicas() []int {
	return []int{math.MinInt, -16, -1, 16, 17, 1 << 32, api.MaxTime, math.MaxInt}
}

// near are numbers about the edges of a time, few enough for all to be held against all.
func near() []int {
	return []int{-1, 0, 1, 2, api.MaxTime - 1, api.MaxTime, api.MaxTime + 1}
}

// nearReplicas are numbers about the edges of a replica's.
func nearReplicas() []int { return []int{-1, 0, 7, 15, 16} }

// may is Check, as the promise's words have it.
func may(s api.Stamp) bool {
	return s.Time >= 0 && s.Time <= 1<<40 && s.Count >= 0 && s.Count <= 1<<40 && s.Replica >= 0 && s.Replica <= 15
}

// ahead is Less, as the promise's words have it.
func ahead(a, b api.Stamp) bool {
	return slices.Compare([]int{a.Time, a.Count, a.Replica}, []int{b.Time, b.Count, b.Replica}) < 0
}

// next is Next, as the promise's words have it.
func next(last api.Stamp, now, replica int) (api.Stamp, api.Errno) {
	switch {
	case !may(last) || now < 0 || now > 1<<40 || replica < 0 || replica > 15:
		return api.Stamp{}, api.ErrRange
	case now > last.Time:
		return at(now, 0, replica), api.OK
	case last.Count+1 > 1<<40:
		return api.Stamp{}, api.ErrSpent
	}
	return at(last.Time, last.Count+1, replica), api.OK
}

// seen is Seen, as the promise's words have it.
func seen(last, other api.Stamp, now int) (api.Stamp, api.Errno) {
	if !may(last) || !may(other) || now < 0 || now > 1<<40 {
		return api.Stamp{}, api.ErrRange
	}
	greatest := slices.MaxFunc([][]int{{last.Time, last.Count}, {other.Time, other.Count}, {now, 0}}, slices.Compare[[]int])
	return at(greatest[0], greatest[1], last.Replica), api.OK
}

// nexts fails unless Next answers this.
func nexts(t *testing.T, last api.Stamp, now, replica int, want api.Stamp, wantErr api.Errno) {
	t.Helper()
	if got, err := stamp.Next(last, now, replica); got != want || err != wantErr {
		t.Errorf("Next(%v, %d, %d) = %v, error %d; want %v, error %d", last, now, replica, got, err, want, wantErr)
	}
}

// sees fails unless Seen answers this.
func sees(t *testing.T, last, other api.Stamp, now int, want api.Stamp, wantErr api.Errno) {
	t.Helper()
	if got, err := stamp.Seen(last, other, now); got != want || err != wantErr {
		t.Errorf("Seen(%v, %v, %d) = %v, error %d; want %v, error %d", last, other, now, got, err, want, wantErr)
	}
}

// Promise 14.1: Check.

func TestCheckTakesEachStamp(t *testing.T) {
	for replica := range api.Replicas {
		for _, s := range all(times(), times(), []int{replica}) {
			if err := stamp.Check(s); err != api.OK {
				t.Errorf("Check(%v) = error %d", s, err)
			}
		}
	}
}

func TestCheckRefusesWhatIsNoStamp(t *testing.T) {
	replicas := []int{0, 7, 15}
	wrong := slices.Concat(
		all(wrongTimes(), times(), replicas),
		all(times(), wrongTimes(), replicas),
		all(times(), times(), wrongReplicas()),
		all(wrongTimes(), wrongTimes(), wrongReplicas()),
	)
	for _, s := range wrong {
		if err := stamp.Check(s); err != api.ErrRange {
			t.Errorf("Check(%v) = error %d; want ErrRange", s, err)
		}
	}
}

// Promise 14.1: Less.

func TestLess(t *testing.T) {
	rising := []api.Stamp{
		at(0, 0, 0), at(0, 0, 1), at(0, 0, 15), at(0, 1, 0), at(0, 1, 2), at(0, api.MaxTime, 15),
		at(1, 0, 0), at(1, 0, 9), at(1, 2, 1), at(2, 1, 0), at(5, 3, 2), at(5, 4, 1), at(6, 0, 0), at(api.MaxTime, api.MaxTime, 15),
	}
	for i, a := range rising {
		for j, b := range rising {
			if got := stamp.Less(a, b); got != (i < j) {
				t.Errorf("Less(%v, %v) = %t", a, b, got)
			}
		}
	}
}

// Stamps that Check refuses are compared as all others are.
func TestLessAtTheEdges(t *testing.T) {
	edges := []int{math.MinInt, -1, 0, 1, api.MaxTime, math.MaxInt}
	l := all(edges, edges, edges)
	for _, a := range l {
		for _, b := range l {
			if got, want := stamp.Less(a, b), ahead(a, b); got != want {
				t.Fatalf("Less(%v, %v) = %t; want %t", a, b, got, want)
			}
		}
	}
}

// Promise 14.1: Next.

func TestNext(t *testing.T) {
	last := at(5, 3, 2)
	nexts(t, last, 4, 2, at(5, 4, 2), api.OK)
	nexts(t, last, 5, 2, at(5, 4, 2), api.OK)
	nexts(t, last, 6, 2, at(6, 0, 2), api.OK)
	nexts(t, last, 0, 2, at(5, 4, 2), api.OK)
	nexts(t, last, api.MaxTime, 2, at(api.MaxTime, 0, 2), api.OK)
	nexts(t, api.Stamp{}, 0, 0, at(0, 1, 0), api.OK)
	nexts(t, api.Stamp{}, 1, 0, at(1, 0, 0), api.OK)
	nexts(t, at(api.MaxTime, 0, 0), api.MaxTime, 0, at(api.MaxTime, 1, 0), api.OK)
}

// The replica is the one that is handed in, not the last stamp's, and is not asked which stamp is greater.
func TestNextHasTheReplica(t *testing.T) {
	for of := range api.Replicas {
		for replica := range api.Replicas {
			nexts(t, at(5, 3, of), 4, replica, at(5, 4, replica), api.OK)
			nexts(t, at(5, 3, of), 6, replica, at(6, 0, replica), api.OK)
		}
	}
}

func TestNextIsSpent(t *testing.T) {
	for _, now := range []int{0, 4, 5} {
		nexts(t, at(5, api.MaxTime-1, 2), now, 2, at(5, api.MaxTime, 2), api.OK)
		nexts(t, at(5, api.MaxTime, 2), now, 2, api.Stamp{}, api.ErrSpent)
	}
	nexts(t, at(5, api.MaxTime, 2), 6, 2, at(6, 0, 2), api.OK)
	nexts(t, at(0, api.MaxTime, 0), 0, 0, api.Stamp{}, api.ErrSpent)
	nexts(t, at(api.MaxTime, api.MaxTime, 15), api.MaxTime, 15, api.Stamp{}, api.ErrSpent)
}

func TestNextRefusesWrongNumbers(t *testing.T) {
	for _, n := range wrongTimes() {
		nexts(t, at(n, 3, 2), 6, 2, api.Stamp{}, api.ErrRange)
		nexts(t, at(5, n, 2), 4, 2, api.Stamp{}, api.ErrRange)
		nexts(t, at(5, n, 2), 6, 2, api.Stamp{}, api.ErrRange)
		nexts(t, at(5, 3, 2), n, 2, api.Stamp{}, api.ErrRange)
		// What is wrong comes ahead of what is spent.
		nexts(t, at(5, api.MaxTime, 2), n, 2, api.Stamp{}, api.ErrRange)
	}
	for _, n := range wrongReplicas() {
		nexts(t, at(5, 3, n), 4, 2, api.Stamp{}, api.ErrRange)
		nexts(t, at(5, 3, n), 6, 2, api.Stamp{}, api.ErrRange)
		nexts(t, at(5, 3, 2), 4, n, api.Stamp{}, api.ErrRange)
		nexts(t, at(5, 3, 2), 6, n, api.Stamp{}, api.ErrRange)
		nexts(t, at(5, api.MaxTime, n), 4, 2, api.Stamp{}, api.ErrRange)
		nexts(t, at(5, api.MaxTime, 2), 4, n, api.Stamp{}, api.ErrRange)
	}
}

func TestNextAboutTheEdges(t *testing.T) {
	for _, last := range all(near(), near(), nearReplicas()) {
		for _, now := range near() {
			for _, replica := range nearReplicas() {
				want, wantErr := next(last, now, replica)
				nexts(t, last, now, replica, want, wantErr)
			}
		}
	}
}

// Promise 14.1: Seen.

func TestSeen(t *testing.T) {
	last, other := at(5, 3, 2), at(7, 9, 1)
	sees(t, last, other, 6, at(7, 9, 2), api.OK)
	sees(t, other, last, 6, at(7, 9, 1), api.OK)
	sees(t, last, other, 7, at(7, 9, 2), api.OK)
	sees(t, last, other, 8, at(8, 0, 2), api.OK)
	sees(t, other, last, 8, at(8, 0, 1), api.OK)
	sees(t, last, at(5, 2, 9), 5, at(5, 3, 2), api.OK)
	sees(t, last, at(5, 3, 9), 5, at(5, 3, 2), api.OK)
	sees(t, last, at(5, 4, 0), 5, at(5, 4, 2), api.OK)
	sees(t, last, at(4, 9, 0), 4, at(5, 3, 2), api.OK)
	sees(t, last, last, 0, last, api.OK)
	sees(t, at(5, 0, 2), at(5, 0, 3), 5, at(5, 0, 2), api.OK)
	sees(t, api.Stamp{}, api.Stamp{}, 0, api.Stamp{}, api.OK)
	sees(t, api.Stamp{}, at(api.MaxTime, api.MaxTime, 15), api.MaxTime, at(api.MaxTime, api.MaxTime, 0), api.OK)
	sees(t, at(5, api.MaxTime, 2), api.Stamp{}, 6, at(6, 0, 2), api.OK)
	sees(t, api.Stamp{}, api.Stamp{}, api.MaxTime, at(api.MaxTime, 0, 0), api.OK)
}

func TestSeenHasTheLastOnesReplica(t *testing.T) {
	for of := range api.Replicas {
		for by := range api.Replicas {
			for _, now := range []int{0, 5, 6, 7} {
				sees(t, at(5, 3, of), at(7, 9, by), now, at(7, 9, of), api.OK)
				sees(t, at(7, 9, of), at(5, 3, by), now, at(7, 9, of), api.OK)
			}
			sees(t, at(5, 3, of), at(7, 9, by), 8, at(8, 0, of), api.OK)
			sees(t, at(7, 9, of), at(5, 3, by), 8, at(8, 0, of), api.OK)
		}
	}
}

func TestSeenRefusesWrongNumbers(t *testing.T) {
	last, other := at(5, 3, 2), at(7, 9, 1)
	for _, n := range wrongTimes() {
		for _, wrong := range []api.Stamp{at(n, 3, 2), at(5, n, 2), at(9, n, 2)} {
			sees(t, wrong, other, 6, api.Stamp{}, api.ErrRange)
			sees(t, last, wrong, 6, api.Stamp{}, api.ErrRange)
			sees(t, wrong, wrong, n, api.Stamp{}, api.ErrRange)
		}
		sees(t, last, other, n, api.Stamp{}, api.ErrRange)
	}
	for _, n := range wrongReplicas() {
		sees(t, at(5, 3, n), other, 6, api.Stamp{}, api.ErrRange)
		sees(t, last, at(7, 9, n), 6, api.Stamp{}, api.ErrRange)
		sees(t, last, at(4, 9, n), 6, api.Stamp{}, api.ErrRange)
	}
}

func TestSeenAboutTheEdges(t *testing.T) {
	l := all(near(), near(), nearReplicas())
	for _, last := range l {
		for _, other := range l {
			for _, now := range near() {
				want, wantErr := seen(last, other, now)
				if got, err := stamp.Seen(last, other, now); got != want || err != wantErr {
					t.Fatalf("Seen(%v, %v, %d) = %v, error %d; want %v, error %d", last, other, now, got, err, want, wantErr)
				}
			}
		}
	}
}

// Promise 14.2.

func TestNextIsGreater(t *testing.T) {
	times := []int{0, 1, 2, api.MaxTime - 1, api.MaxTime}
	l := all(times, times, []int{0, 7, 15})
	for _, last := range l {
		for _, other := range l {
			for _, now := range times {
				greater(t, last, other, now, now)
				greater(t, last, other, now, 0)
				greater(t, last, other, 0, now)
			}
		}
	}
}

// greater fails unless the Next of what was Seen, if there is one, is greater than all that led to it.
func greater(t *testing.T, last, other api.Stamp, now, then int) {
	t.Helper()
	s, err := stamp.Seen(last, other, now)
	if err != api.OK || stamp.Less(s, last) || stamp.Check(s) != api.OK {
		t.Fatalf("Seen(%v, %v, %d) = %v, error %d", last, other, now, s, err)
	}
	for replica := range api.Replicas {
		made, err := stamp.Next(s, then, replica)
		if err == api.ErrSpent && s.Count == api.MaxTime && then <= s.Time {
			continue
		}
		if err != api.OK || stamp.Check(made) != api.OK || made.Replica != replica {
			t.Fatalf("Next(%v, %d, %d) = %v, error %d", s, then, replica, made, err)
		}
		if !stamp.Less(s, made) || !stamp.Less(last, made) || !stamp.Less(other, made) {
			t.Fatalf("Next(%v, %d, %d) = %v is not greater than %v, %v and %v", s, then, replica, made, s, last, other)
		}
	}
}

// What replicas make in turn, each having seen what was made ahead, rises, though each one's clock tells another time, and some go back.
func TestWhatIsMadeRises(t *testing.T) {
	clocks := [api.Replicas]int{100, 3, 50, 0, 100, 99}
	var lasts [api.Replicas]api.Stamp
	for replica := range lasts {
		lasts[replica].Replica = replica
	}
	var made []api.Stamp
	for step := range 500 {
		replica := step * 7 % api.Replicas
		now := clocks[replica] + step%5*(step%3)
		if len(made) > 0 {
			s, err := stamp.Seen(lasts[replica], made[len(made)-1], now)
			if err != api.OK {
				t.Fatalf("Seen: error %d", err)
			}
			lasts[replica] = s
		}
		s, err := stamp.Next(lasts[replica], now, replica)
		if err != api.OK {
			t.Fatalf("Next: error %d", err)
		}
		lasts[replica], made = s, append(made, s)
	}
	for i := range made {
		for j := range made {
			if got := stamp.Less(made[i], made[j]); got != (i < j) {
				t.Fatalf("Less of what was made as %d, and as %d = %t: %v, %v", i, j, got, made[i], made[j])
			}
		}
	}
}

// Promises 14.1 and 14.2, of any numbers.
func FuzzNextIsGreater(f *testing.F) {
	f.Add(5, 3, 2, 7, 9, 1, 6, 0)
	f.Add(5, api.MaxTime, 2, 5, 0, 15, 5, 5)
	f.Add(-1, 0, 16, api.MaxTime+1, 0, 0, math.MinInt, math.MaxInt)
	f.Fuzz(func(t *testing.T, aTime, aCount, aReplica, bTime, bCount, bReplica, now, then int) {
		last, other := at(aTime, aCount, aReplica), at(bTime, bCount, bReplica)
		for _, s := range []api.Stamp{last, other} {
			if got, want := stamp.Check(s) == api.OK, may(s); got != want {
				t.Fatalf("Check(%v) is OK: %t", s, got)
			}
			want, wantErr := next(s, now, other.Replica)
			nexts(t, s, now, other.Replica, want, wantErr)
		}
		if got, want := stamp.Less(last, other), ahead(last, other); got != want {
			t.Fatalf("Less(%v, %v) = %t", last, other, got)
		}
		want, wantErr := seen(last, other, now)
		sees(t, last, other, now, want, wantErr)
		if wantErr == api.OK && then >= 0 && then <= api.MaxTime {
			greater(t, last, other, now, then)
		}
	})
}
