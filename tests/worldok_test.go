package tests

import (
	"math/rand"
	"slices"
	"strings"
	"testing"

	"loop.example/keyward/impl"
)

// isWrong fails unless a world is not ok, and nothing comes of it, whatever happens.
func isWrong(t *testing.T, what string, w impl.GrpWorld) {
	t.Helper()
	if impl.GrpOk(w) || plainlyWorldOk(w) {
		t.Fatalf("%s: %+v is ok", what, w)
	}
	comesToNothing(t, what, w)
}

// comesToNothing fails unless nothing comes of a world, whatever happens.
func comesToNothing(t *testing.T, what string, w impl.GrpWorld) {
	t.Helper()
	for _, e := range append(anyOfEach(0, 0), impl.EvEvent{}, impl.EvEvent{Kind: impl.EvCommit, Who: -1}) {
		if got := impl.GrpStep(w, e); !isNoWorld(got) {
			t.Fatalf("%s: %+v, by %+v, of %+v", what, got, e, w)
		}
	}
	for _, got := range []impl.GrpWorld{impl.GrpCalm(w), impl.GrpRun(w, nil), impl.GrpRun(w, anyOfEach(0, 0))} {
		if !isNoWorld(got) {
			t.Fatalf("%s: %+v, of %+v", what, got, w)
		}
	}
}

// isRight fails unless a world is ok.
func isRight(t *testing.T, what string, w impl.GrpWorld) {
	t.Helper()
	if !impl.GrpOk(w) || !plainlyWorldOk(w) {
		t.Fatalf("%s: %+v is not ok", what, w)
	}
	if got := impl.GrpStep(w, impl.EvEvent{}); !sameWorld(got, w) {
		t.Fatalf("%s: %+v, of %+v", what, got, w)
	}
}

// Without a seat, a number or a list of windows, and with one more, a world is not ok.
func TestAWorldHasASeatForEach(t *testing.T) {
	for _, w := range []impl.GrpWorld{impl.GrpNew(0), handWorld(t)} {
		for many := range 20 {
			if many == impl.SecMany {
				continue
			}
			other := make([]impl.MemMember, many)
			copy(other, w.Seats)
			isWrong(t, "seats", turnedWorld(w, func(w *impl.GrpWorld) { w.Seats = other }))
			isWrong(t, "secrets made", turnedWorld(w, func(w *impl.GrpWorld) { w.Fresh = make([]int, many) }))
			isWrong(t, "frames said", turnedWorld(w, func(w *impl.GrpWorld) { w.Said = make([]int, many) }))
			isWrong(t, "windows", turnedWorld(w, func(w *impl.GrpWorld) { w.Wins = make([][]impl.FraWin, many) }))
		}
	}
}

// A seat is its own one's, or in none; what is not ok is no seat.
func TestSeatsThatAreNotOk(t *testing.T) {
	w := handWorld(t)
	for who := range impl.SecMany {
		for _, no := range wrongMembers() {
			isWrong(t, "a seat not ok", turnedWorld(w, func(w *impl.GrpWorld) { w.Seats[who] = no }))
		}
		for other, m := range w.Seats {
			if other != who && m.In {
				isWrong(t, "a seat of another one", turnedWorld(w, func(w *impl.GrpWorld) { w.Seats[who] = m }))
			}
		}
		isRight(t, "in none", turnedWorld(w, func(w *impl.GrpWorld) { w.Seats[who] = impl.MemMember{} }))
		isRight(t, "of any group", turnedWorld(w, func(w *impl.GrpWorld) { w.Seats[who] = impl.MemFirst(who, "kH9;", nameOfSize(300)) }))
	}
	isWrong(t, "two who change seats", turnedWorld(w, func(w *impl.GrpWorld) { w.Seats[0], w.Seats[1] = w.Seats[1], w.Seats[0] }))
}

// Numbers are in 0..SecMost, and 0..FraMost.
func TestNumbersOfAWorld(t *testing.T) {
	w := handWorld(t)
	for who := range impl.SecMany {
		for _, made := range outOf(0, impl.SecMost) {
			isWrong(t, "secrets", turnedWorld(w, func(w *impl.GrpWorld) { w.Fresh[who] = made }))
		}
		for _, said := range outOf(0, impl.FraMost) {
			isWrong(t, "frames", turnedWorld(w, func(w *impl.GrpWorld) { w.Said[who] = said }))
		}
		for _, n := range []int{0, 1, 50, impl.SecMost} {
			isRight(t, "secrets", turnedWorld(w, func(w *impl.GrpWorld) { w.Fresh[who] = n }))
			isRight(t, "frames", turnedWorld(w, func(w *impl.GrpWorld) { w.Said[who] = n * 10 }))
		}
		isRight(t, "frames", turnedWorld(w, func(w *impl.GrpWorld) { w.Said[who] = impl.FraMost }))
	}
}

// Windows are ok, and no two of one list have one Key; two of two lists may.
func TestWindowsOfAWorld(t *testing.T) {
	w := handWorld(t)
	for who := range impl.SecMany {
		for i, no := range wrongWins() {
			isWrong(t, "a window", turnedWorld(w, func(w *impl.GrpWorld) {
				w.Wins[who] = slices.Insert(append(w.Wins[who], otherWins()...), i%(len(w.Wins[who])+1), no)
			}))
		}
		for _, win := range otherWins() {
			isWrong(t, "two of one Key", turnedWorld(w, func(w *impl.GrpWorld) { w.Wins[who] = append(otherWins(), winOf(win.Key, 9, 8)) }))
		}
		isRight(t, "any windows", turnedWorld(w, func(w *impl.GrpWorld) { w.Wins[who] = otherWins() }))
	}
	isRight(t, "the same of each", turnedWorld(w, func(w *impl.GrpWorld) {
		for who := range w.Wins {
			w.Wins[who] = otherWins()
		}
	}))
	var many []impl.FraWin
	for _, s := range manySecrets(700) {
		many = append(many, winOf(plainlySaid(s, 3), 7))
	}
	isRight(t, "many", turnedWorld(w, func(w *impl.GrpWorld) { w.Wins[7] = many }))
}

// Commits, frames and stolen secrets that are not ok, wherever they lie.
func TestWhatIsNotOkInAWorld(t *testing.T) {
	w := handWorld(t)
	comes, none := handSent()
	for i, no := range wrongCommits(comes.c, none.c) {
		at := i % (len(w.Log) + 1)
		other := turnedWorld(w, func(w *impl.GrpWorld) { w.Log = slices.Insert(w.Log, at, no) })
		if impl.GrpOk(other) {
			t.Fatalf("%+v is ok", other)
		}
		if i%20 == 0 {
			isWrong(t, "a commit", other)
		}
	}
	isRight(t, "any commits that are ok", turnedWorld(w, func(w *impl.GrpWorld) { w.Log = slices.Insert(w.Log, 2, comes.c, none.c, comes.c) }))
	for i, no := range wrongFrames(w.Frames[0]) {
		at := i % (len(w.Frames) + 1)
		isWrong(t, "a frame", turnedWorld(w, func(w *impl.GrpWorld) { w.Frames = slices.Insert(w.Frames, at, no) }))
	}
	isRight(t, "any frames that are ok", turnedWorld(w, func(w *impl.GrpWorld) { w.Frames = append(w.Frames, w.Frames[0], someFrames()[7]) }))
	for i, no := range noNames() {
		at := i % (len(w.Spy) + 1)
		isWrong(t, "a stolen secret", turnedWorld(w, func(w *impl.GrpWorld) { w.Spy = slices.Insert(w.Spy, at, no) }))
	}
	isRight(t, "any stolen secrets", turnedWorld(w, func(w *impl.GrpWorld) { w.Spy = someNames()[:72] }))
}

// Who waits is one, by a commit that is there, with two names.
func TestWhoWaitsInAWorld(t *testing.T) {
	w := handWorld(t)
	for at := range len(w.Waits) + 1 {
		put := func(x impl.GrpWait) impl.GrpWorld {
			return turnedWorld(w, func(w *impl.GrpWorld) { w.Waits = slices.Insert(w.Waits, at, x) })
		}
		isRight(t, "any who waits", put(impl.GrpWait{Who: 7, At: 0, Leaf: "kA1;", Key: "kA1;"}))
		isRight(t, "at the end", put(impl.GrpWait{Who: 0, At: len(w.Log) - 1, Leaf: nameOfSize(300), Key: "eA1;B1;"}))
		for _, who := range outOf(0, impl.SecMany-1) {
			isWrong(t, "nobody", put(impl.GrpWait{Who: who, At: 0, Leaf: "A1;", Key: "A2;"}))
		}
		for _, no := range outOf(0, len(w.Log)-1) {
			isWrong(t, "no commit", put(impl.GrpWait{Who: 4, At: no, Leaf: "A1;", Key: "A2;"}))
		}
		for _, no := range noNames() {
			isWrong(t, "no name", put(impl.GrpWait{Who: 4, At: 0, Leaf: no, Key: "A2;"}))
			isWrong(t, "no name", put(impl.GrpWait{Who: 4, At: 0, Leaf: "A1;", Key: no}))
		}
	}
	isWrong(t, "no commit at all", turnedWorld(w, func(w *impl.GrpWorld) { w.Log = nil }))
	isWrong(t, "its commit is gone", turnedWorld(w, func(w *impl.GrpWorld) { w.Log = w.Log[:4] }))
	isRight(t, "its commit is there", turnedWorld(w, func(w *impl.GrpWorld) { w.Log = w.Log[:5] }))
}

// What was stolen was of one, behind commits of at most SecLong bytes; what was heard is a frame that is there, by one.
func TestWhatWasStolenAndHeardInAWorld(t *testing.T) {
	w := handWorld(t)
	for at := range 3 {
		steal := func(x impl.GrpSteal) impl.GrpWorld {
			return turnedWorld(w, func(w *impl.GrpWorld) { w.Stolen = slices.Insert(w.Stolen, at, x) })
		}
		told := func(x impl.GrpTold) impl.GrpWorld {
			return turnedWorld(w, func(w *impl.GrpWorld) { w.Told = slices.Insert(w.Told, at, x) })
		}
		for _, who := range outOf(0, impl.SecMany-1) {
			isWrong(t, "of nobody", steal(impl.GrpSteal{Who: who}))
			isWrong(t, "by nobody", told(impl.GrpTold{Who: who}))
		}
		for _, no := range outOf(0, len(w.Frames)-1) {
			isWrong(t, "no frame", told(impl.GrpTold{Who: 1, At: no}))
		}
		for who := range impl.SecMany {
			isRight(t, "by any", told(impl.GrpTold{Who: who, At: (who + at) % len(w.Frames)}))
			isRight(t, "of any", steal(impl.GrpSteal{Who: who, Tag: "\xff any bytes"}))
			isRight(t, "just so long", steal(impl.GrpSteal{Who: who, Tag: strings.Repeat("x", impl.SecLong)}))
			isWrong(t, "too long", steal(impl.GrpSteal{Who: who, Tag: strings.Repeat("x", impl.SecLong+1)}))
			isWrong(t, "too long", steal(impl.GrpSteal{Who: who, Tag: strings.Repeat("A1;", 10000)}))
		}
	}
	isWrong(t, "no frames at all", turnedWorld(w, func(w *impl.GrpWorld) { w.Frames = nil }))
	isWrong(t, "the frame is gone", turnedWorld(w, func(w *impl.GrpWorld) { w.Frames = w.Frames[:3] }))
}

// Of each list there may be just so many, and not one more.
func TestBoundsOfAWorld(t *testing.T) {
	w := handWorld(t)
	lists := []struct {
		what string
		most int
		fill func(w *impl.GrpWorld, many int)
	}{
		{"commits", 16, func(w *impl.GrpWorld, many int) { w.Waits, w.Log = nil, slices.Repeat(w.Log[:1], many) }},
		{"who wait", 16, func(w *impl.GrpWorld, many int) { w.Waits = slices.Repeat(w.Waits[:1], many) }},
		{"frames", 40, func(w *impl.GrpWorld, many int) { w.Told, w.Frames = nil, slices.Repeat(w.Frames[:1], many) }},
		{"thefts", 12, func(w *impl.GrpWorld, many int) { w.Stolen = slices.Repeat(w.Stolen[:1], many) }},
		{"stolen secrets", 72, func(w *impl.GrpWorld, many int) { w.Spy = slices.Repeat(w.Spy[:1], many) }},
		{"stolen secrets without thefts", 72, func(w *impl.GrpWorld, many int) { w.Stolen, w.Spy = nil, slices.Repeat(w.Spy[:1], many) }},
		{"heard", 320, func(w *impl.GrpWorld, many int) { w.Told = slices.Repeat(w.Told[:1], many) }},
	}
	for _, l := range lists {
		for _, many := range []int{0, 1, l.most - 1, l.most} {
			isRight(t, l.what, turnedWorld(w, func(w *impl.GrpWorld) { l.fill(w, many) }))
		}
		for _, many := range []int{l.most + 1, l.most + 2, 2 * l.most, 5000} {
			isWrong(t, l.what, turnedWorld(w, func(w *impl.GrpWorld) { l.fill(w, many) }))
		}
	}
}

// Whatever is turned of a world: by the words of the document alone.
func TestWhichWorldsAreOk(t *testing.T) {
	r := rand.New(rand.NewSource(91))
	right, wrong := 0, 0
	for _, w := range someWorlds(92, 60, 40) {
		isRight(t, "as it happened", w)
		for range 25 {
			other := copyOfWorld(w)
			for range 1 + r.Intn(2) {
				turnWorld(r, &other)
			}
			got := impl.GrpOk(other)
			if got != plainlyWorldOk(other) {
				t.Fatalf("%v, of %+v", got, other)
			}
			if got {
				right++
			} else {
				wrong++
				comesToNothing(t, "turned", other)
			}
		}
	}
	if right < 200 || wrong < 200 {
		t.Fatal(right, wrong)
	}
}

// turnWorld turns one thing of a world, so that it often is ok still.
func turnWorld(r *rand.Rand, w *impl.GrpWorld) {
	who, near := r.Intn(8), r.Intn(6)-1
	if len(w.Seats) != 8 || len(w.Fresh) != 8 || len(w.Said) != 8 || len(w.Wins) != 8 {
		return
	}
	switch r.Intn(14) {
	case 0:
		w.Seats[who].Epoch = []int{-1, 0, 12, 13}[r.Intn(4)]
	case 1:
		w.Seats[who] = w.Seats[r.Intn(8)]
	case 2:
		w.Fresh[who] = []int{-1, 0, 99, 100}[r.Intn(4)]
	case 3:
		w.Said[who] = []int{-1, 0, 999, 1000}[r.Intn(4)]
	case 4:
		w.Wins[who] = append(w.Wins[who], winOf(plainlySaid("A1;", r.Intn(2)), near+1))
	case 5:
		w.Waits = append(w.Waits, impl.GrpWait{Who: who, At: near, Leaf: "A1;", Key: "A2;"[:3-near/4]})
	case 6:
		w.Stolen = append(w.Stolen, impl.GrpSteal{Who: who - near/4, Tag: strings.Repeat("A", 297+near)})
	case 7:
		w.Told = append(w.Told, impl.GrpTold{Who: who, At: near})
	case 8:
		w.Spy = append(w.Spy, []string{"A1;", "kB1;", "x", ""}[r.Intn(4)])
	case 9:
		w.Frames = append(w.Frames, impl.FraFrame{From: who, Key: plainlySaid("A1;", r.Intn(2)*who), N: near, Text: "hi"})
	case 10:
		if len(w.Log) > 0 {
			turnAny(r, &w.Log[r.Intn(len(w.Log))], w.Log[0])
		}
	case 11:
		w.Log = w.Log[:r.Intn(len(w.Log)+1)]
	case 12:
		w.Frames = w.Frames[:r.Intn(len(w.Frames)+1)]
	case 13:
		w.Seats, w.Wins = w.Seats[:8-near/4], w.Wins[:8-max(0, near-3)]
	}
}
