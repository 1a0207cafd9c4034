package tests

import (
	"math/rand"
	"slices"
	"strconv"
	"testing"

	"loop.example/keyward/impl"
)

func goesOn(who, add, remove int) impl.EvEvent {
	return impl.EvEvent{Kind: impl.EvCommit, Who: who, Add: add, Remove: remove}
}

func hearsAt(who, at int) impl.EvEvent {
	return impl.EvEvent{Kind: impl.EvHear, Who: who, At: at}
}

func joinsAt(who, at int) impl.EvEvent {
	return impl.EvEvent{Kind: impl.EvJoin, Who: who, At: at}
}

func isStolenOf(who int) impl.EvEvent {
	return impl.EvEvent{Kind: impl.EvSteal, Who: who}
}

func saysText(who int, text string) impl.EvEvent {
	return impl.EvEvent{Kind: impl.EvSay, Who: who, Text: text}
}

func getsAt(who, at int) impl.EvEvent {
	return impl.EvEvent{Kind: impl.EvGet, Who: who, At: at}
}

// toldTo is frames that one has heard, one behind the other.
func toldTo(who int, frames ...int) []impl.GrpTold {
	var all []impl.GrpTold
	for _, at := range frames {
		all = append(all, impl.GrpTold{Who: who, At: at})
	}
	return all
}

// anyOfEach is one thing of each kind of one, as it would be in a world in which all that it names is there.
func anyOfEach(who, at int) []impl.EvEvent {
	return []impl.EvEvent{goesOn(who, -1, -1), hearsAt(who, at), joinsAt(who, at), isStolenOf(who), saysText(who, "hi"), getsAt(who, at)}
}

func sameWorld(a, b impl.GrpWorld) bool {
	return slices.EqualFunc(a.Seats, b.Seats, sameMember) && slices.Equal(a.Waits, b.Waits) && slices.EqualFunc(a.Log, b.Log, sameCommit) &&
		slices.Equal(a.Fresh, b.Fresh) && slices.Equal(a.Spy, b.Spy) && slices.Equal(a.Stolen, b.Stolen) && slices.Equal(a.Frames, b.Frames) &&
		slices.Equal(a.Said, b.Said) && slices.EqualFunc(a.Wins, b.Wins, sameWins) && slices.Equal(a.Told, b.Told)
}

func isNoWorld(w impl.GrpWorld) bool {
	return sameWorld(w, impl.GrpWorld{})
}

// copyOfWorld is a world, no list of which is shared.
func copyOfWorld(w impl.GrpWorld) impl.GrpWorld {
	w.Seats, w.Log, w.Wins = slices.Clone(w.Seats), slices.Clone(w.Log), slices.Clone(w.Wins)
	for i, m := range w.Seats {
		w.Seats[i] = copyOf(m)
	}
	for i, c := range w.Log {
		w.Log[i] = copyOfCommit(c)
	}
	for i, wins := range w.Wins {
		w.Wins[i] = copyOfWins(wins)
	}
	w.Waits, w.Fresh, w.Spy, w.Stolen = slices.Clone(w.Waits), slices.Clone(w.Fresh), slices.Clone(w.Spy), slices.Clone(w.Stolen)
	w.Frames, w.Said, w.Told = slices.Clone(w.Frames), slices.Clone(w.Said), slices.Clone(w.Told)
	return w
}

// turnedWorld is a world with something of it turned.
func turnedWorld(w impl.GrpWorld, by func(w *impl.GrpWorld)) impl.GrpWorld {
	other := copyOfWorld(w)
	by(&other)
	return other
}

// plainlyWorldOk is whether a world is ok, by the words of the document.
func plainlyWorldOk(w impl.GrpWorld) bool {
	if len(w.Seats) != 8 || len(w.Fresh) != 8 || len(w.Said) != 8 || len(w.Wins) != 8 {
		return false
	}
	for who := range 8 {
		if !plainlyOk(w.Seats[who]) || w.Seats[who].In && w.Seats[who].Who != who {
			return false
		}
		if w.Fresh[who] < 0 || w.Fresh[who] > 99 || w.Said[who] < 0 || w.Said[who] > 999 {
			return false
		}
		keys := map[string]int{}
		for _, win := range w.Wins[who] {
			keys[win.Key]++
			if !plainlyWin(win) || keys[win.Key] > 1 {
				return false
			}
		}
	}
	if len(w.Log) > 16 || len(w.Waits) > 16 || len(w.Frames) > 40 || len(w.Stolen) > 12 || len(w.Spy) > 72 || len(w.Told) > 320 {
		return false
	}
	return plainlyListsOk(w)
}

// plainlyListsOk is whether all in the lists of a world is ok, a name, one, or there.
func plainlyListsOk(w impl.GrpWorld) bool {
	one := func(who int) bool { return who >= 0 && who <= 7 }
	for _, x := range w.Waits {
		if !one(x.Who) || x.At < 0 || x.At >= len(w.Log) || !plainlyName(x.Leaf) || !plainlyName(x.Key) {
			return false
		}
	}
	for _, x := range w.Stolen {
		if !one(x.Who) || len(x.Tag) > 300 {
			return false
		}
	}
	for _, x := range w.Told {
		if !one(x.Who) || x.At < 0 || x.At >= len(w.Frames) {
			return false
		}
	}
	for _, c := range w.Log {
		if !plainlyCommitOk(c) {
			return false
		}
	}
	for _, s := range w.Spy {
		if !plainlyName(s) {
			return false
		}
	}
	return !slices.ContainsFunc(w.Frames, func(f impl.FraFrame) bool { return !plainlyFrame(f) })
}

// plainlyNew is a secret that one makes anew, written by hand.
func plainlyNew(who, n int) string {
	return string("ABCDEFGH"[who]) + strconv.Itoa(n) + ";"
}

// plainlyBegun is a world that one begins, by the words of the document.
func plainlyBegun(who int) impl.GrpWorld {
	w := impl.GrpWorld{Seats: make([]impl.MemMember, 8), Fresh: make([]int, 8), Said: make([]int, 8), Wins: make([][]impl.FraWin, 8)}
	leaf := plainlyNew(who, 1)
	w.Seats[who] = impl.MemMember{In: true, Who: who, Tree: impl.TreTree{Keys: plainlySet(noKeys(), who, leaf)}, Init: plainlyNew(who, 2)}
	for up, p := range plainlyUpward(ownOf[who]) {
		w.Seats[who].Own = append(w.Seats[who].Own, impl.MemOwn{Node: p, Secret: "nnn"[:up] + leaf})
	}
	w.Fresh[who] = 2
	return w
}

// plainlyStep is a world behind what happens, by the words of the document.
func plainlyStep(w impl.GrpWorld, e impl.EvEvent) impl.GrpWorld {
	if !plainlyWorldOk(w) {
		return impl.GrpWorld{}
	}
	return plainlyHappens(w, e)
}

// plainlyHappens is a world that is ok behind what happens.
func plainlyHappens(w impl.GrpWorld, e impl.EvEvent) impl.GrpWorld {
	w = copyOfWorld(w)
	if e.Who < 0 || e.Who > 7 {
		return w
	}
	noCommit, noFrame := e.At < 0 || e.At >= len(w.Log), e.At < 0 || e.At >= len(w.Frames)
	seat := w.Seats[e.Who]
	switch {
	case e.Kind == 1:
		plainlyGoesOn(&w, e)
	case e.Kind == 2 && !noCommit:
		if next, ok := plainlyHear(seat, w.Log[e.At]); ok {
			w.Seats[e.Who] = copyOf(next)
		}
	case e.Kind == 3 && !noCommit:
		plainlyJoins(&w, e)
	case e.Kind == 4 && seat.In && len(w.Stolen) < 12:
		for _, own := range seat.Own {
			w.Spy = append(w.Spy, own.Secret)
		}
		w.Spy = append(w.Spy, seat.Init)
		w.Stolen = append(w.Stolen, impl.GrpSteal{Who: e.Who, Tag: seat.Tag})
	case e.Kind == 5 && seat.In && len(w.Frames) < 40 && w.Said[e.Who] < 999:
		f := impl.FraFrame{From: e.Who, Key: plainlySaid(seat.Init, e.Who), N: w.Said[e.Who] + 1, Text: e.Text}
		if plainlyFrame(f) {
			w.Frames = append(w.Frames, f)
			w.Said[e.Who]++
		}
	case e.Kind == 6 && !noFrame && len(w.Told) < 320:
		if wins, ok := plainlyGet(seat, w.Wins[e.Who], w.Frames[e.At]); ok {
			w.Wins[e.Who] = copyOfWins(wins)
			w.Told = append(w.Told, impl.GrpTold{Who: e.Who, At: e.At})
		}
	}
	return w
}

func plainlyGoesOn(w *impl.GrpWorld, e impl.EvEvent) {
	if len(w.Log) >= 16 || w.Fresh[e.Who] == 99 || e.Add < -1 || e.Add > 7 || e.Add >= 0 && w.Fresh[e.Add] >= 98 {
		return
	}
	ask := commitAsk{m: w.Seats[e.Who], fresh: plainlyNew(e.Who, w.Fresh[e.Who]+1), add: e.Add, remove: e.Remove}
	wait := impl.GrpWait{Who: e.Add, At: len(w.Log)}
	if e.Add >= 0 {
		wait.Leaf, wait.Key = plainlyNew(e.Add, w.Fresh[e.Add]+1), plainlyNew(e.Add, w.Fresh[e.Add]+2)
		ask.leaf, ask.key = "k"+wait.Leaf, "k"+wait.Key
	}
	if !plainlyMay(ask) {
		return
	}
	next, c := plainlyCommit(ask)
	w.Seats[e.Who], w.Log = copyOf(next), append(w.Log, copyOfCommit(c))
	w.Fresh[e.Who]++
	if e.Add >= 0 {
		w.Waits = append(w.Waits, wait)
		w.Fresh[e.Add] += 2
	}
}

func plainlyJoins(w *impl.GrpWorld, e impl.EvEvent) {
	for i, x := range w.Waits {
		if x.Who != e.Who || x.At != e.At {
			continue
		}
		next, ok := plainlyJoin(e.Who, x.Leaf, x.Key, w.Log[e.At])
		if ok && !w.Seats[e.Who].In {
			w.Seats[e.Who] = copyOf(next)
			w.Waits = slices.Delete(w.Waits, i, i+1)
		}
		return
	}
}

// plainlyCalm is a world that is ok in a calm: commit by commit, one by one.
func plainlyCalm(w impl.GrpWorld) impl.GrpWorld {
	for at := range w.Log {
		for who := range 8 {
			w = plainlyHappens(w, hearsAt(who, at))
			w = plainlyHappens(w, joinsAt(who, at))
		}
	}
	return w
}

// steps is a world behind what happens; the test fails if nothing turns, it is not as the document says, or not ok.
func steps(t *testing.T, what string, w impl.GrpWorld, e impl.EvEvent) impl.GrpWorld {
	t.Helper()
	got := impl.GrpStep(w, e)
	if sameWorld(got, w) {
		t.Fatalf("%s: nothing turned by %+v, of %+v", what, e, w)
	}
	if want := plainlyHappens(w, e); !sameWorld(got, want) {
		t.Fatalf("%s: %+v, not %+v, of %+v, by %+v", what, got, want, w, e)
	}
	if !impl.GrpOk(got) {
		t.Fatalf("%s: %+v is not ok, behind %+v", what, got, e)
	}
	return got
}

// stepsAll is steps of one behind the other.
func stepsAll(t *testing.T, what string, w impl.GrpWorld, events ...impl.EvEvent) impl.GrpWorld {
	t.Helper()
	for _, e := range events {
		w = steps(t, what, w, e)
	}
	return w
}

// leavesAll fails unless a world that is ok is as it is behind what happens.
func leavesAll(t *testing.T, what string, w impl.GrpWorld, events ...impl.EvEvent) {
	t.Helper()
	for _, e := range events {
		if got := impl.GrpStep(w, e); !sameWorld(got, w) || isNoWorld(got) {
			t.Fatalf("%s: %+v, of %+v, by %+v", what, got, w, e)
		}
	}
}

// grownBy is a group that the first of some begins; it lets the others in, one behind the other, all hear, and all come.
func grownBy(t *testing.T, all ...int) impl.GrpWorld {
	t.Helper()
	w := impl.GrpNew(all[0])
	for i, who := range all[1:] {
		w = steps(t, "lets in", w, goesOn(all[0], who, -1))
		for _, other := range all[1 : i+1] {
			w = steps(t, "hears", w, hearsAt(other, i))
		}
		w = steps(t, "comes", w, joinsAt(who, i))
	}
	return w
}

// whoIsIn is all whose seats are in, rising.
func whoIsIn(w impl.GrpWorld) []int {
	var in []int
	for who, m := range w.Seats {
		if m.In {
			in = append(in, who)
		}
	}
	return in
}

// haveOne fails unless some are in, behind the same commits, and the group has the same for all.
func haveOne(t *testing.T, what string, w impl.GrpWorld, tag string, all ...int) {
	t.Helper()
	first := w.Seats[all[0]]
	for _, who := range all {
		m := w.Seats[who]
		if !m.In || m.Tag != tag || m.Init != first.Init || m.Epoch != first.Epoch || !slices.Equal(m.Tree.Keys, first.Tree.Keys) {
			t.Fatalf("%s: %+v, not behind %s as %+v", what, m, tag, first)
		}
	}
}

// mayFollow is what one may hear, or come by, in a world, by its names alone: commits, frames, and who waits.
func mayFollow(w impl.GrpWorld) []impl.EvEvent {
	var all []impl.EvEvent
	for who, m := range w.Seats {
		for at, c := range w.Log {
			if m.In && c.Tag == m.Tag && c.Sender != who {
				all = append(all, hearsAt(who, at))
			}
		}
		for at, f := range w.Frames {
			if m.In && f.From != who && f.Key == plainlySaid(m.Init, f.From) && !slices.Contains(w.Told, impl.GrpTold{Who: who, At: at}) {
				all = append(all, getsAt(who, at))
			}
		}
	}
	for _, x := range w.Waits {
		all = append(all, joinsAt(x.Who, x.At))
	}
	return all
}

// someEvent is something that often can happen in a world, and now and then cannot.
func someEvent(r *rand.Rand, w impl.GrpWorld) impl.EvEvent {
	if next := mayFollow(w); len(next) > 0 && r.Intn(3) > 0 {
		return next[r.Intn(len(next))]
	}
	e := impl.EvEvent{Kind: []int{1, 1, 1, 2, 3, 4, 5, 5, 5, 5, 6}[r.Intn(11)], Who: r.Intn(8), Add: -1, Remove: -1, Text: "hi"}
	if in := whoIsIn(w); len(in) > 0 && r.Intn(8) > 0 {
		e.Who = in[r.Intn(len(in))]
	}
	if r.Intn(2) == 0 {
		e.Add = r.Intn(8)
	}
	if r.Intn(4) == 0 {
		e.Remove = r.Intn(8)
	}
	if r.Intn(8) == 0 {
		e.Add = e.Remove
	}
	e.At = r.Intn(1 + max(len(w.Log), len(w.Frames)))
	if r.Intn(20) == 0 {
		turnEvent(r, &e)
	}
	return e
}

// turnEvent turns one part of what happens to any number there is, or a text to one that may not be said.
func turnEvent(r *rand.Rand, e *impl.EvEvent) {
	any := append(outOf(0, 7), 0, 1, 7, 15, 16, 39, 40)
	n := any[r.Intn(len(any))]
	switch r.Intn(6) {
	case 0:
		e.Kind = n
	case 1:
		e.Who = n
	case 2:
		e.Add = n
	case 3:
		e.Remove = n
	case 4:
		e.At = n
	case 5:
		e.Text = wrongTexts()[r.Intn(20)]
	}
}

// someWorlds is worlds behind what happens to happen, each with what lies ahead of it.
func someWorlds(seed int64, many, events int) []impl.GrpWorld {
	r := rand.New(rand.NewSource(seed))
	var all []impl.GrpWorld
	for range many {
		w := impl.GrpNew(r.Intn(8))
		for range events {
			w = impl.GrpStep(w, someEvent(r, w))
		}
		all = append(all, w)
	}
	return all
}

// handWorld is a world with something of each: four of a group in two parts, one that waits, one that was let go, thefts, frames that were heard, and late ones.
func handWorld(t *testing.T) impl.GrpWorld {
	t.Helper()
	w := grownBy(t, 0, 1, 2, 3, 5)
	return stepsAll(t, "by hand", w,
		saysText(0, "hi"), saysText(1, "ok"), getsAt(1, 0), getsAt(2, 0), getsAt(2, 1), isStolenOf(1),
		goesOn(0, 4, 5), goesOn(2, -1, -1), hearsAt(5, 4), hearsAt(1, 4), hearsAt(3, 5), saysText(2, "a"), saysText(1, "b"), getsAt(0, 3), isStolenOf(3))
}
