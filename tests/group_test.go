package tests

import (
	"math"
	"slices"
	"strings"
	"testing"

	"loop.example/keyward/impl"
)

func TestNumbersOfTheGroup(t *testing.T) {
	got := [...]int{impl.EvCommit, impl.EvHear, impl.EvJoin, impl.EvSteal, impl.EvSay, impl.EvGet, impl.LogMost, impl.SayMost, impl.StoMost, impl.EvMaxRun}
	if want := [...]int{1, 2, 3, 4, 5, 6, 16, 40, 12, 200}; got != want {
		t.Fatal(got)
	}
}

// Who begins is alone in, with its first two secrets; of nobody there is no world.
func TestAGroupBegins(t *testing.T) {
	for who := range impl.SecMany {
		w := impl.GrpNew(who)
		if want := plainlyBegun(who); !sameWorld(w, want) || !impl.GrpOk(w) || !plainlyWorldOk(w) {
			t.Fatalf("%+v, not %+v", w, want)
		}
		if !slices.Equal(whoIsIn(w), []int{who}) || len(w.Log)+len(w.Waits)+len(w.Frames)+len(w.Stolen)+len(w.Spy)+len(w.Told) != 0 {
			t.Fatalf("%+v", w)
		}
	}
	for _, who := range outOf(0, impl.SecMany-1) {
		if w := impl.GrpNew(who); !isNoWorld(w) {
			t.Fatalf("%+v, of %d", w, who)
		}
	}
	if impl.GrpOk(impl.GrpWorld{}) {
		t.Fatal("a world without seats is ok")
	}
}

// EvCommit: by hand, who goes on, who waits, and how many secrets were made.
func TestOneGoesOnInAGroup(t *testing.T) {
	w := steps(t, "alone", impl.GrpNew(0), goesOn(0, -1, -1))
	if m := w.Seats[0]; m.Tag != "A3;" || m.Init != "eA2;nnnnA3;" || m.Epoch != 1 || len(w.Log) != 1 || w.Log[0].Name != "A3;" || w.Fresh[0] != 3 || len(w.Waits) != 0 {
		t.Fatalf("%+v", w)
	}
	w = steps(t, "lets B in", w, goesOn(0, 1, -1))
	if !slices.Equal(w.Waits, []impl.GrpWait{{Who: 1, At: 1, Leaf: "B1;", Key: "B2;"}}) || w.Log[1].Leaf != "kB1;" || w.Log[1].Welcome.Key != "kB2;" {
		t.Fatalf("%+v", w)
	}
	if !slices.Equal(w.Fresh, []int{4, 2, 0, 0, 0, 0, 0, 0}) || w.Seats[1].In || w.Log[1].Sender != 0 || w.Log[1].Add != 1 || w.Log[1].Remove != -1 {
		t.Fatalf("%+v", w)
	}
	// B has not come yet, and is let go, and in again: it waits twice, by two commits, with four secrets.
	w = steps(t, "lets B go, and in", w, goesOn(0, 1, 1))
	if !slices.Equal(w.Waits, []impl.GrpWait{{Who: 1, At: 1, Leaf: "B1;", Key: "B2;"}, {Who: 1, At: 2, Leaf: "B3;", Key: "B4;"}}) || w.Fresh[1] != 4 || w.Fresh[0] != 5 {
		t.Fatalf("%+v", w)
	}
	w = steps(t, "B comes by the first", w, joinsAt(1, 1))
	w = steps(t, "B goes on", w, goesOn(1, 7, -1))
	if w.Seats[1].Tag != "A3;A4;B5;" || w.Waits[1] != (impl.GrpWait{Who: 7, At: 3, Leaf: "H1;", Key: "H2;"}) || w.Fresh[1] != 5 || len(w.Waits) != 2 {
		t.Fatalf("%+v", w)
	}
}

// EvCommit: whom one may let in and go, of all pairs there are, and of all numbers that are none.
func TestWhomOneLetsInAndGoInAGroup(t *testing.T) {
	w := grownBy(t, 0, 1, 2, 4)
	nobodies := outOf(0, impl.SecMany-1)
	for who := range impl.SecMany {
		for add := -1; add < impl.SecMany; add++ {
			for remove := -1; remove < impl.SecMany; remove++ {
				in := []int{0, 1, 2, 4}
				comes := add == -1 || !slices.Contains(in, add) || add == remove
				goes := remove == -1 || slices.Contains(in, remove)
				if slices.Contains(in, who) && comes && goes && add != who && remove != who {
					steps(t, "may", w, goesOn(who, add, remove))
				} else {
					leavesAll(t, "may not", w, goesOn(who, add, remove))
				}
			}
		}
		for _, no := range nobodies {
			if no == -1 {
				continue
			}
			for _, other := range []int{-1, 0, 1, 3, no} {
				leavesAll(t, "none", w, goesOn(who, no, other), goesOn(who, other, no))
			}
		}
	}
}

// EvCommit: LogMost commits there are, and not one more, though each part of the group could go on.
func TestJustSoManyCommits(t *testing.T) {
	w := grownBy(t, 0, 1)
	for range 7 {
		w = stepsAll(t, "apart", w, goesOn(0, -1, -1), goesOn(1, -1, -1))
	}
	w = steps(t, "the last one", w, goesOn(1, 5, -1))
	if len(w.Log) != impl.LogMost || w.Seats[0].Epoch != 8 || w.Seats[1].Epoch != 9 {
		t.Fatalf("%+v", w)
	}
	leavesAll(t, "one more", w, goesOn(0, -1, -1), goesOn(1, -1, -1), goesOn(0, 3, -1), goesOn(1, -1, 0), goesOn(1, 0, 0))
	// All else still happens.
	stepsAll(t, "all else", w, joinsAt(5, 15), isStolenOf(0), saysText(5, "x"), getsAt(1, 0))
}

// EvCommit and EvHear: behind MemEpochs epochs nobody goes on, nor hears.
func TestJustSoManyEpochs(t *testing.T) {
	w := grownBy(t, 2, 3)
	for at := 1; at < impl.MemEpochs; at++ {
		leavesAll(t, "too early", w, hearsAt(3, at))
		w = stepsAll(t, "goes on", w, goesOn(2, -1, -1), hearsAt(3, at))
	}
	if w.Seats[3].Epoch != impl.MemEpochs || len(w.Log) != impl.MemEpochs {
		t.Fatalf("%+v", w)
	}
	leavesAll(t, "behind the last epoch", w, goesOn(2, -1, -1), goesOn(3, -1, -1), goesOn(3, 0, -1), goesOn(3, -1, 2))
	// A commit that goes on from the last epoch is not heard there.
	c := copyOfCommit(w.Log[len(w.Log)-1])
	c.Tag, c.Name = w.Seats[3].Tag, "C99;"
	w.Log = append(w.Log, c)
	leavesAll(t, "one epoch more", w, hearsAt(3, impl.MemEpochs), hearsAt(2, impl.MemEpochs))
	stepsAll(t, "all else", w, saysText(2, "x"), getsAt(3, 0), isStolenOf(2))
}

// EvCommit: who has made SecMost secrets makes no more, and who has made SecMost - 1 does not come.
func TestJustSoManySecretsOfOne(t *testing.T) {
	w := grownBy(t, 0, 1)
	for made := 90; made <= impl.SecMost; made++ {
		w.Fresh[0], w.Fresh[3] = made, 0
		if made == impl.SecMost {
			leavesAll(t, "all made", w, goesOn(0, -1, -1), goesOn(0, 3, -1), goesOn(0, -1, 1))
		} else if got := stepsAll(t, "one left", w, goesOn(0, 3, -1)); got.Fresh[0] != made+1 || got.Log[1].Name != plainlyNew(0, made+1) {
			t.Fatalf("%+v", got)
		}
		w.Fresh[0], w.Fresh[3] = 10, made
		if made >= impl.SecMost-1 {
			leavesAll(t, "who comes has not two left", w, goesOn(0, 3, -1), goesOn(1, 3, 0))
			steps(t, "nobody comes", w, goesOn(0, -1, -1))
		} else if got := stepsAll(t, "two left", w, goesOn(0, 3, -1), joinsAt(3, 1)); got.Fresh[3] != made+2 || got.Seats[3].Own[0].Secret != plainlyNew(3, made+1) {
			t.Fatalf("%+v", got)
		}
		// Who goes needs none.
		w.Fresh[1] = made
		steps(t, "who goes", w, goesOn(0, -1, 1))
	}
}

// EvHear: in order all hear; out of order nobody hears what comes too early, nor anything twice.
func TestCommitsAreHeardInOrder(t *testing.T) {
	w := grownBy(t, 4, 0, 6)
	w = stepsAll(t, "goes on thrice", w, goesOn(4, -1, -1), goesOn(4, -1, -1), goesOn(4, -1, -1))
	for _, who := range []int{0, 6} {
		leavesAll(t, "too early, or heard", w, hearsAt(who, 0), hearsAt(who, 1), hearsAt(who, 3), hearsAt(who, 4))
		w = steps(t, "the first one", w, hearsAt(who, 2))
		leavesAll(t, "too early, or heard", w, hearsAt(who, 0), hearsAt(who, 1), hearsAt(who, 2), hearsAt(who, 4))
		w = steps(t, "the second one", w, hearsAt(who, 3))
		leavesAll(t, "heard", w, hearsAt(who, 2), hearsAt(who, 3))
		w = steps(t, "the third one", w, hearsAt(who, 4))
		for at := range w.Log {
			leavesAll(t, "all heard", w, hearsAt(who, at))
		}
	}
	for at := range w.Log {
		leavesAll(t, "who sent it, and who is in none", w, hearsAt(4, at), hearsAt(1, at), hearsAt(7, at))
	}
	haveOne(t, "all", w, "E3;E4;E5;E6;E7;", 0, 4, 6)
}

// EvHear, EvGet and EvCommit: two go on at once, from the same commits; some hear the one, some the other, and the parts stay apart.
func TestTwoGoOnAtOnce(t *testing.T) {
	w := grownBy(t, 0, 1, 2, 3)
	w = stepsAll(t, "both", w, goesOn(1, -1, -1), goesOn(2, -1, -1))
	if w.Log[3].Tag != w.Log[4].Tag || w.Log[3].Tag != "A3;A4;A5;" {
		t.Fatalf("%+v", w.Log)
	}
	leavesAll(t, "neither hears the other", w, hearsAt(1, 4), hearsAt(2, 3), hearsAt(1, 3), hearsAt(2, 4))
	w = stepsAll(t, "some hear the one, some the other", w, hearsAt(0, 3), hearsAt(3, 4))
	leavesAll(t, "who hears the one does not hear the other", w, hearsAt(0, 4), hearsAt(3, 3), hearsAt(0, 3), hearsAt(3, 4))
	haveOne(t, "one part", w, "A3;A4;A5;B3;", 0, 1)
	haveOne(t, "other part", w, "A3;A4;A5;C3;", 2, 3)
	if w.Seats[0].Init == w.Seats[2].Init || w.Seats[0].Epoch != w.Seats[2].Epoch {
		t.Fatalf("%+v", w.Seats)
	}
	w = stepsAll(t, "both parts say", w, saysText(1, "one"), saysText(3, "other"))
	leavesAll(t, "not of the other part", w, getsAt(2, 0), getsAt(3, 0), getsAt(0, 1), getsAt(1, 1))
	w = stepsAll(t, "of its own part", w, getsAt(0, 0), getsAt(2, 1))
	w = stepsAll(t, "both go on again", w, goesOn(0, -1, 3), goesOn(3, 4, 1))
	leavesAll(t, "each in its part", w, hearsAt(1, 6), hearsAt(2, 5), hearsAt(3, 5), hearsAt(0, 6))
	w = stepsAll(t, "each in its part", w, hearsAt(1, 5), hearsAt(2, 6), joinsAt(4, 6))
	haveOne(t, "one part, without D", w, "A3;A4;A5;B3;A6;", 0, 1)
	haveOne(t, "other part, with E, without B", w, "A3;A4;A5;C3;D3;", 2, 3, 4)
	if !slices.Equal(impl.TreIn(w.Seats[0].Tree), []int{0, 1, 2}) || !slices.Equal(impl.TreIn(w.Seats[4].Tree), []int{0, 2, 3, 4}) {
		t.Fatalf("%+v", w.Seats)
	}
	// One who is let in by both parts waits twice, and comes by one of them.
	w = stepsAll(t, "both let H in", w, goesOn(1, 7, -1), goesOn(2, 7, -1))
	if !slices.Equal(w.Waits, []impl.GrpWait{{Who: 7, At: 7, Leaf: "H1;", Key: "H2;"}, {Who: 7, At: 8, Leaf: "H3;", Key: "H4;"}}) {
		t.Fatalf("%+v", w.Waits)
	}
	w = steps(t, "by the other", w, joinsAt(7, 8))
	leavesAll(t, "not by both", w, joinsAt(7, 7), joinsAt(7, 8), hearsAt(7, 7), hearsAt(7, 8))
	haveOne(t, "with H", w, "A3;A4;A5;C3;D3;C4;", 2, 7)
}

// EvHear and EvJoin: who is let go is in none, and hears nothing more; who comes in its place comes at once.
func TestWhoIsLetGoInAGroup(t *testing.T) {
	w := grownBy(t, 0, 1, 2)
	let := steps(t, "lets C go", w, goesOn(0, -1, 2))
	let = stepsAll(t, "goes on without it", let, goesOn(0, -1, -1), saysText(0, "x"))
	leavesAll(t, "not ahead of what lets it go", let, hearsAt(2, 3))
	let = steps(t, "C hears that", let, hearsAt(2, 2))
	if let.Seats[2].In || !sameMember(let.Seats[2], impl.MemMember{}) {
		t.Fatalf("%+v", let.Seats[2])
	}
	leavesAll(t, "nothing more", let, append(anyOfEach(2, 0), hearsAt(2, 1), hearsAt(2, 2), hearsAt(2, 3), joinsAt(2, 1), joinsAt(2, 2))...)
	let = stepsAll(t, "and comes again", let, hearsAt(1, 2), hearsAt(1, 3), goesOn(1, 2, -1), joinsAt(2, 4), hearsAt(0, 4))
	haveOne(t, "again", let, "A3;A4;A5;A6;B3;", 0, 1, 2)

	// To the same place, at once: it must have gone before it comes.
	same := steps(t, "C anew", w, goesOn(1, 2, 2))
	leavesAll(t, "it is in still", same, joinsAt(2, 2))
	same = stepsAll(t, "goes, and comes", same, hearsAt(2, 2), joinsAt(2, 2), hearsAt(0, 2))
	haveOne(t, "anew", same, "A3;A4;B3;", 0, 1, 2)
	if got := same.Seats[2].Own[0].Secret; got != "C3;" || len(same.Waits) != 0 {
		t.Fatalf("%q, %+v", got, same.Waits)
	}

	// Another one for it, at once.
	other := stepsAll(t, "D for C", w, goesOn(0, 3, 2), joinsAt(3, 2), hearsAt(1, 2))
	haveOne(t, "another one", other, "A3;A4;A5;", 0, 1, 3)
	haveOne(t, "who has not heard", other, "A3;A4;", 2)
	other = steps(t, "C hears that", other, hearsAt(2, 2))
	if !slices.Equal(whoIsIn(other), []int{0, 1, 3}) {
		t.Fatal(whoIsIn(other))
	}
}

// EvJoin: the first that waits, of that one, by that commit; not who is in, nor by another commit, nor twice.
func TestWhoWaitsComes(t *testing.T) {
	w := stepsAll(t, "three wait", impl.GrpNew(3), goesOn(3, 0, -1), goesOn(3, 7, -1), goesOn(3, 0, 0))
	for who := range impl.SecMany {
		for at := -1; at <= 3; at++ {
			if who == 0 && (at == 0 || at == 2) || who == 7 && at == 1 {
				got := steps(t, "waits", w, joinsAt(who, at))
				if len(got.Waits) != 2 || !got.Seats[who].In || got.Seats[who].Epoch != at+1 {
					t.Fatalf("%+v", got)
				}
				leavesAll(t, "waits no more", got, joinsAt(who, at))
			} else {
				leavesAll(t, "does not wait", w, joinsAt(who, at))
			}
		}
	}
	// Who has come by the first, and is let go, comes by the other.
	w = stepsAll(t, "by both", w, joinsAt(0, 0), hearsAt(0, 1), hearsAt(0, 2), joinsAt(0, 2), joinsAt(7, 1), hearsAt(7, 2))
	haveOne(t, "all", w, "D3;D4;D5;", 0, 3, 7)

	// Of two that wait for the same just the first is asked, whatever the other one has.
	two := stepsAll(t, "waits", impl.GrpNew(0), goesOn(0, 1, -1))
	two.Waits = []impl.GrpWait{{Who: 1, At: 0, Leaf: "B9;", Key: "B2;"}, {Who: 1, At: 0, Leaf: "B1;", Key: "B2;"}}
	leavesAll(t, "the first one has another secret", two, joinsAt(1, 0))
	slices.Reverse(two.Waits)
	if got := steps(t, "the first one is it", two, joinsAt(1, 0)); len(got.Waits) != 1 || got.Waits[0].Leaf != "B9;" {
		t.Fatalf("%+v", got.Waits)
	}
	two.Waits = []impl.GrpWait{{Who: 2, At: 0, Leaf: "B1;", Key: "B2;"}, {Who: 1, At: 0, Leaf: "B1;", Key: "B2;"}, {Who: 3, At: 0, Leaf: "B1;", Key: "B2;"}}
	leavesAll(t, "let in by none", two, joinsAt(2, 0), joinsAt(3, 0))
	if got := steps(t, "among others", two, joinsAt(1, 0)); len(got.Waits) != 2 || got.Waits[0].Who != 2 || got.Waits[1].Who != 3 {
		t.Fatalf("%+v", got.Waits)
	}
	for _, wait := range []impl.GrpWait{{Who: 1, Leaf: "B2;", Key: "B1;"}, {Who: 1, Leaf: "B1;", Key: "B1;"}, {Who: 1, Leaf: "B1;", Key: "nB2;"}, {Who: 1, Leaf: "kB1;", Key: "kB2;"}} {
		two.Waits = []impl.GrpWait{wait}
		leavesAll(t, "with other secrets", two, joinsAt(1, 0))
	}
}

// EvSteal: all that one has, behind what was stolen, as often as StoMost, and of who is in alone.
func TestWhatIsStolen(t *testing.T) {
	w := grownBy(t, 0, 1)
	w = steps(t, "of A", w, isStolenOf(0))
	if !slices.Equal(w.Spy, []string{"A3;", "nA3;", "nnA3;", "nnnA3;", "eA2;nnnnA3;"}) || !slices.Equal(w.Stolen, []impl.GrpSteal{{Who: 0, Tag: "A3;"}}) {
		t.Fatalf("%q, %+v", w.Spy, w.Stolen)
	}
	w = stepsAll(t, "of B, behind more", w, goesOn(0, 4, -1), isStolenOf(1), hearsAt(1, 1), isStolenOf(1))
	if !slices.Equal(w.Spy[5:], []string{"B1;", "nA3;", "nnA3;", "nnnA3;", "eA2;nnnnA3;", "B1;", "nA4;", "nnA4;", "nnnA4;", "eeA2;nnnnA3;nnnnA4;"}) {
		t.Fatalf("%q", w.Spy)
	}
	if !slices.Equal(w.Stolen, []impl.GrpSteal{{Who: 0, Tag: "A3;"}, {Who: 1, Tag: "A3;"}, {Who: 1, Tag: "A3;A4;"}}) {
		t.Fatalf("%+v", w.Stolen)
	}
	leavesAll(t, "of who is in none", w, isStolenOf(4), isStolenOf(2), isStolenOf(7))
	begun := impl.GrpNew(6)
	for i := range impl.StoMost {
		begun = steps(t, "once more", begun, isStolenOf(6))
		if len(begun.Stolen) != i+1 || len(begun.Spy) != 5*(i+1) || begun.Stolen[i] != (impl.GrpSteal{Who: 6}) {
			t.Fatalf("%+v", begun)
		}
	}
	leavesAll(t, "too often", begun, isStolenOf(6))
	stepsAll(t, "all else", begun, goesOn(6, 0, -1), joinsAt(0, 0), saysText(0, ""), getsAt(6, 0))
}

// EvSay: frames are numbered one by one of each, over all epochs, up to SayMost in all, and up to FraMost of one.
func TestWhatIsSaidInAGroup(t *testing.T) {
	w := stepsAll(t, "said", grownBy(t, 0, 1), saysText(1, "hi"), saysText(0, ""), saysText(1, "abcdefgh"), goesOn(1, -1, -1), saysText(1, "z"), saysText(0, "z"))
	before, then := "eA2;nnnnA3;", "eeA2;nnnnA3;nnnnB3;"
	frame := func(from int, init string, n int, text string) impl.FraFrame {
		return impl.FraFrame{From: from, Key: plainlySaid(init, from), N: n, Text: text}
	}
	if !slices.Equal(w.Frames, []impl.FraFrame{frame(1, before, 1, "hi"), frame(0, before, 1, ""), frame(1, before, 2, "abcdefgh"), frame(1, then, 3, "z"), frame(0, before, 2, "z")}) {
		t.Fatalf("%+v", w.Frames)
	}
	if !slices.Equal(w.Said, []int{2, 3, 0, 0, 0, 0, 0, 0}) {
		t.Fatal(w.Said)
	}
	for _, text := range wrongTexts() {
		leavesAll(t, "may not be said", w, saysText(0, text))
	}
	leavesAll(t, "who is in none", w, saysText(2, "hi"), saysText(7, ""))
	for len(w.Frames) < impl.SayMost {
		w = steps(t, "one more", w, saysText(len(w.Frames)%2, "x"))
	}
	leavesAll(t, "too many", w, saysText(0, "hi"), saysText(1, ""))
	stepsAll(t, "all else", w, hearsAt(0, 1), getsAt(0, impl.SayMost-1), isStolenOf(0), goesOn(0, -1, -1))

	one := grownBy(t, 3, 2)
	one.Said[3] = impl.FraMost - 1
	one = steps(t, "the last one", one, saysText(3, "end"))
	if one.Frames[0].N != impl.FraMost || one.Said[3] != impl.FraMost {
		t.Fatalf("%+v", one)
	}
	leavesAll(t, "it has said all", one, saysText(3, "hi"), saysText(3, ""))
	stepsAll(t, "another one has not", one, saysText(2, "hi"), getsAt(3, 1), getsAt(2, 0))
}

// EvSay: what the group has can be too long to say with, in a world that was written.
func TestTooLongToSayWith(t *testing.T) {
	for size := 297; size <= impl.SecLong; size++ {
		w := impl.GrpNew(0)
		w.Seats[0].Init = nameOfSize(size)
		if size <= 298 {
			steps(t, "just so long", w, saysText(0, "hi"))
		} else {
			leavesAll(t, "too long", w, saysText(0, "hi"))
		}
		leavesAll(t, "too long to go on", w, goesOn(0, -1, -1))
	}
}

// EvGet: each is heard once, in order, out of order and late, but not too late; and never by who said it.
func TestWhatIsHeardInAGroup(t *testing.T) {
	w := grownBy(t, 0, 1, 2)
	for range 20 {
		w = steps(t, "said", w, saysText(0, "x"))
	}
	for at := range 20 {
		leavesAll(t, "who said it, and who is in none", w, getsAt(0, at), getsAt(3, at), getsAt(7, at))
	}
	for at := range 10 {
		w = steps(t, "in order", w, getsAt(1, at))
		leavesAll(t, "twice", w, getsAt(1, at))
	}
	for _, at := range []int{5, 3, 4, 0, 8, 1, 15, 9, 19, 12} {
		w = steps(t, "out of order", w, getsAt(2, at))
		leavesAll(t, "twice", w, getsAt(2, at))
	}
	leavesAll(t, "too late", w, getsAt(2, 2), getsAt(2, 6), getsAt(2, 7), getsAt(2, 11))
	if !sameWins(w.Wins[2], []impl.FraWin{winOf(w.Frames[0].Key, 20, 16, 13)}) || !sameWins(w.Wins[1], []impl.FraWin{winOf(w.Frames[0].Key, 10, 9, 8, 7, 6, 5, 4, 3)}) || len(w.Wins[0]) != 0 {
		t.Fatalf("%+v", w.Wins)
	}
	if !slices.Equal(w.Told, append(toldTo(1, 0, 1, 2, 3, 4, 5, 6, 7, 8, 9), toldTo(2, 5, 3, 4, 0, 8, 1, 15, 9, 19, 12)...)) {
		t.Fatalf("%+v", w.Told)
	}
	w = stepsAll(t, "of others", w, saysText(1, "a"), saysText(2, "b"), getsAt(0, 20), getsAt(0, 21), getsAt(1, 21), getsAt(2, 20), getsAt(1, 11))
	if len(w.Wins[0]) != 2 || len(w.Wins[1]) != 2 || w.Wins[1][0].Top != 12 {
		t.Fatalf("%+v", w.Wins)
	}
}

// EvGet: SayMost * SecMany are heard, and not one more.
func TestJustSoManyAreHeard(t *testing.T) {
	w := stepsAll(t, "said", grownBy(t, 0, 1), saysText(0, "a"), saysText(0, "b"), saysText(1, "c"))
	w.Told = slices.Repeat(toldTo(5, 2), impl.SayMost*impl.SecMany-1)
	w = steps(t, "the last one", w, getsAt(1, 0))
	if len(w.Told) != 320 || w.Told[319] != (impl.GrpTold{Who: 1, At: 0}) {
		t.Fatal(w.Told)
	}
	leavesAll(t, "one more", w, getsAt(1, 1), getsAt(0, 2))
	stepsAll(t, "all else", w, saysText(1, "d"), goesOn(0, 2, -1), joinsAt(2, 1), isStolenOf(2), hearsAt(1, 1))
}

// Promise 78: of a group of two a frame is heard by the other one, once, not behind a commit that was heard since, and not by who said it.
func TestWhatWasSaidAheadOfACommitIsNotHeardBehindIt(t *testing.T) {
	for from := range impl.SecMany {
		for other := range impl.SecMany {
			if from == other {
				continue
			}
			for _, w := range []impl.GrpWorld{grownBy(t, from, other), grownBy(t, other, from)} {
				w = stepsAll(t, "said", w, saysText(from, "hi"), saysText(from, "ok"))
				leavesAll(t, "who said it", w, getsAt(from, 0), getsAt(from, 1))
				heard := steps(t, "once", w, getsAt(other, 0))
				leavesAll(t, "twice", heard, getsAt(other, 0), getsAt(from, 0))
				for _, sender := range []int{from, other} {
					hearer := from + other - sender
					sent := steps(t, "sent, not heard", heard, goesOn(sender, -1, -1))
					if sender == from {
						steps(t, "not heard since", sent, getsAt(other, 1))
					} else {
						leavesAll(t, "who sent it is behind it", sent, getsAt(other, 1))
					}
					behind := steps(t, "heard since", sent, hearsAt(hearer, 1))
					leavesAll(t, "behind it", behind, getsAt(other, 0), getsAt(other, 1), getsAt(from, 0), getsAt(from, 1))
					behind = stepsAll(t, "said behind it", behind, saysText(from, "new"), getsAt(other, 2))
					leavesAll(t, "twice, and ahead of it", behind, getsAt(other, 2), getsAt(other, 1), getsAt(from, 2))
				}
			}
		}
	}
}

// Who is nobody does nothing, and so does whatever is no kind, or names a commit or frame that is not there.
func TestWhatCannotHappen(t *testing.T) {
	w := handWorld(t)
	for _, who := range outOf(0, impl.SecMany-1) {
		for at := range 3 {
			leavesAll(t, "nobody", w, anyOfEach(who, at)...)
		}
	}
	for _, kind := range outOf(impl.EvCommit, impl.EvGet) {
		for who := range impl.SecMany {
			leavesAll(t, "no kind", w, impl.EvEvent{Kind: kind, Who: who, Add: -1, Remove: -1, Text: "hi"}, impl.EvEvent{Kind: kind, Who: who, Add: 6, Remove: -1, At: 3})
		}
	}
	for who := range impl.SecMany {
		for _, at := range outOf(0, len(w.Log)-1) {
			leavesAll(t, "no commit", w, hearsAt(who, at), joinsAt(who, at))
		}
		for _, at := range outOf(0, len(w.Frames)-1) {
			leavesAll(t, "no frame", w, getsAt(who, at))
		}
	}
	// Where At names neither it is not asked for.
	for _, at := range outOf(0, 40) {
		for _, e := range []impl.EvEvent{goesOn(0, 6, -1), isStolenOf(0), saysText(0, "hi")} {
			e.At = at
			steps(t, "any At", w, e)
		}
		for _, e := range []impl.EvEvent{joinsAt(4, 4), getsAt(3, 2), isStolenOf(0)} {
			e.Add, e.Remove, e.Text = at, at, "NOT SAID"
			steps(t, "any Add, Remove and text", w, e)
		}
	}
	e := goesOn(2, -1, -1)
	e.Text = strings.Repeat("NOT SAID", 100)
	steps(t, "any text", w, e)
	for _, at := range []int{math.MaxInt, math.MinInt} {
		leavesAll(t, "any number", w, impl.EvEvent{Kind: at, Who: at, Add: at, Remove: at, At: at}, impl.EvEvent{Kind: impl.EvCommit, Add: at, Remove: at, At: at})
	}
}

// The document's example, up to its board.
func TestTheExampleOfAGroup(t *testing.T) {
	w := impl.GrpRun(impl.GrpNew(0), []impl.EvEvent{
		goesOn(0, 1, -1), joinsAt(1, 0), goesOn(0, 2, -1), hearsAt(1, 1), joinsAt(2, 1), saysText(0, "hi"), getsAt(1, 0), getsAt(2, 0), isStolenOf(1), saysText(2, "ok"),
		goesOn(2, -1, -1), hearsAt(0, 2), hearsAt(1, 2), saysText(0, "a"), goesOn(1, -1, -1), hearsAt(0, 3), hearsAt(2, 3), saysText(2, "b"),
		goesOn(0, -1, 1), hearsAt(2, 4), hearsAt(1, 4), saysText(2, "c"), getsAt(0, 4), getsAt(0, 4),
	})
	haveOne(t, "A and C", w, "A3;A4;C3;B3;A5;", 0, 2)
	if !slices.Equal(whoIsIn(w), []int{0, 2}) || w.Seats[0].Epoch != 5 || !slices.Equal(impl.TreIn(w.Seats[2].Tree), []int{0, 2}) || len(w.Log) != 5 || len(w.Waits) != 0 {
		t.Fatalf("%+v", w)
	}
	if !slices.Equal(w.Told, slices.Concat(toldTo(1, 0), toldTo(2, 0), toldTo(0, 4))) || w.Frames[4].N != 3 || w.Frames[4].Text != "c" || w.Frames[0].N != 1 {
		t.Fatalf("%+v and %+v", w.Told, w.Frames)
	}
	if !slices.Equal(w.Stolen, []impl.GrpSteal{{Who: 1, Tag: "A3;A4;"}}) || !slices.Equal(w.Fresh, []int{5, 3, 3, 0, 0, 0, 0, 0}) || !slices.Equal(w.Said, []int{2, 0, 3, 0, 0, 0, 0, 0}) {
		t.Fatalf("%+v", w)
	}
}
