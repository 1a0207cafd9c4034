package tests

import (
	"fmt"
	"math/rand"
	"reflect"
	"slices"
	"strings"
	"testing"

	"loop.example/keyward/impl"
)

// isBoard fails unless the board of a world is some lines.
func isBoard(t *testing.T, what string, w impl.GrpWorld, want ...string) {
	t.Helper()
	if got := impl.DskBoard(w); !slices.Equal(got, want) {
		t.Fatalf("%s: %q, not %q", what, got, want)
	}
	if !slices.Equal(plainlyBoard(w), want) {
		t.Fatalf("%s: plainly %q, not %q", what, plainlyBoard(w), want)
	}
}

// Promise 53: a line for each who is in, one for commits, one for each that was heard, and one for each frame that can be opened; by the words of the document alone.
func TestABoardHasALineForEach(t *testing.T) {
	r := rand.New(rand.NewSource(123))
	seats, heard, opened := map[int]int{}, 0, 0
	for i, w := range append(someWorlds(124, 200, 70), someWorlds(125, 60, 200)...) {
		if i%5 == 0 {
			w = boxedWorld(r, w)
		}
		got := impl.DskBoard(w)
		if want := plainlyBoard(w); !slices.Equal(got, want) {
			t.Fatalf("%q, not %q, of %+v", got, want, w)
		}
		in, told, hears := len(whoIsIn(w)), len(w.Told), len(impl.SpyHears(w))
		if len(got) != in+1+told+hears {
			t.Fatalf("%q, of %d, %d and %d", got, in, told, hears)
		}
		seats[in]++
		heard += told
		opened += hears
	}
	if seats[1] == 0 || seats[2] == 0 || seats[4] == 0 || seats[6] == 0 || heard < 500 || opened < 500 {
		t.Fatal(seats, heard, opened)
	}
}

// Promise 53: groups of one, whoever begins it, of some and of eight; who waits, and who was let go, has no line.
func TestBoardsOfGroups(t *testing.T) {
	for who := range impl.SecMany {
		letter := string("ABCDEFGH"[who])
		isBoard(t, "alone", impl.GrpNew(who), letter+" epoch 0 of "+letter+" behind ", "commits 0 wait 0")
	}
	isBoard(t, "goes on alone", steps(t, "alone", impl.GrpNew(3), goesOn(3, -1, -1)), "D epoch 1 of D behind D3;", "commits 1 wait 0")
	w := steps(t, "one waits", impl.GrpNew(5), goesOn(5, 1, -1))
	isBoard(t, "one waits", w, "F epoch 1 of BF behind F3;", "commits 1 wait 1")
	w = steps(t, "two wait", w, goesOn(5, 0, -1))
	isBoard(t, "two wait", w, "F epoch 2 of ABF behind F3;F4;", "commits 2 wait 2")
	w = steps(t, "the first one comes", w, joinsAt(1, 0))
	isBoard(t, "the first one comes", w, "B epoch 1 of BF behind F3;", "F epoch 2 of ABF behind F3;F4;", "commits 2 wait 1")
	w = steps(t, "the second one comes", w, joinsAt(0, 1))
	isBoard(t, "the second one comes", w, "A epoch 2 of ABF behind F3;F4;", "B epoch 1 of BF behind F3;", "F epoch 2 of ABF behind F3;F4;", "commits 2 wait 0")
	w = stepsAll(t, "one goes", w, goesOn(0, -1, 5), hearsAt(5, 2))
	isBoard(t, "one goes", w, "A epoch 3 of AB behind F3;F4;A3;", "B epoch 1 of BF behind F3;", "commits 3 wait 0")
	eight := impl.DskBoard(grownBy(t, 0, 1, 2, 3, 4, 5, 6, 7))
	var want []string
	for who := range 8 {
		want = append(want, fmt.Sprintf("%c epoch 7 of ABCDEFGH behind A3;A4;A5;A6;A7;A8;A9;", "ABCDEFGH"[who]))
	}
	if want = append(want, "commits 7 wait 0"); !slices.Equal(eight, want) {
		t.Fatalf("%q, not %q", eight, want)
	}
	none := turnedWorld(impl.GrpNew(0), func(w *impl.GrpWorld) { w.Seats[0] = impl.MemMember{} })
	isBoard(t, "nobody is in", none, "commits 0 wait 0")
}

// Promise 53: frames that were heard, in the order in which they were, by their own numbers; and those that can be opened, by their places.
func TestFramesOnABoard(t *testing.T) {
	w := stepsAll(t, "said", grownBy(t, 2, 0), saysText(2, "hi"), saysText(0, ""), saysText(2, "abcdefgh"), saysText(0, "ok"))
	first := []string{"A epoch 1 of AC behind C3;", "C epoch 1 of AC behind C3;", "commits 1 wait 0"}
	isBoard(t, "none is heard", w, first...)
	w = stepsAll(t, "heard", w, getsAt(0, 2), getsAt(2, 3), getsAt(0, 0), getsAt(2, 1))
	heard := append(slices.Clone(first), "A hears C 2 abcdefgh", "C hears A 2 ok", "A hears C 1 hi", "C hears A 1 ")
	isBoard(t, "all are heard", w, heard...)
	w = steps(t, "stolen", w, isStolenOf(2))
	isBoard(t, "all can be opened", w, append(slices.Clone(heard), "spy hears 0", "spy hears 1", "spy hears 2", "spy hears 3")...)
	w = stepsAll(t, "healed", w, goesOn(2, -1, -1), saysText(2, "a"), saysText(0, "b"))
	want := append([]string{"A epoch 1 of AC behind C3;", "C epoch 2 of AC behind C3;C4;", "commits 2 wait 0"}, heard[3:]...)
	isBoard(t, "but for one", w, append(want, "spy hears 0", "spy hears 1", "spy hears 2", "spy hears 3", "spy hears 5")...)
}

// The edges: a world at all its bounds, and texts that nobody begins with; a line tells all as it is.
func TestBoardsOfWrittenWorlds(t *testing.T) {
	w := turnedWorld(handWorld(t), func(w *impl.GrpWorld) {
		w.Waits = slices.Repeat(w.Waits[:1], impl.LogMost)
		w.Log = slices.Concat(w.Log, slices.Repeat(w.Log[:1], impl.LogMost-len(w.Log)))
		w.Frames = slices.Repeat([]impl.FraFrame{{From: 6, Key: "mGA1;", N: impl.FraMost, Text: "zzzzzzzz"}}, impl.SayMost)
		w.Told = slices.Repeat([]impl.GrpTold{{Who: 7, At: impl.SayMost - 1}}, impl.SayMost*impl.SecMany)
		w.Spy = append(w.Spy, "A1;")
		w.Seats[0].Tag, w.Seats[0].Epoch = "\xff any\nbytes\x00 ", impl.MemEpochs
		w.Seats[1].Tag = strings.Repeat("x", impl.SecLong)
	})
	isRight(t, "written", w)
	got := impl.DskBoard(w)
	if want := plainlyBoard(w); !slices.Equal(got, want) {
		t.Fatalf("%q, not %q", got, want)
	}
	if got[0] != "A epoch 12 of ABCDE behind \xff any\nbytes\x00 " || !strings.HasSuffix(got[1], " behind "+strings.Repeat("x", 300)) || !slices.Contains(got, "commits 16 wait 16") {
		t.Fatalf("%q", got)
	}
	count := func(line string) int {
		return len(slices.DeleteFunc(slices.Clone(got), func(s string) bool { return s != line }))
	}
	if count("H hears G 999 zzzzzzzz") != 320 || count("spy hears 0") != 1 || got[len(got)-1] != "spy hears 39" {
		t.Fatalf("%q", got)
	}
	r := rand.New(rand.NewSource(126))
	for _, w := range someWorlds(127, 100, 40) {
		w = writtenWorld(r, w)
		if got := impl.DskBoard(w); !slices.Equal(got, plainlyBoard(w)) {
			t.Fatalf("%q, not %q, of %+v", got, plainlyBoard(w), w)
		}
	}
}

// Promise 53: of worlds that are not ok there is no board.
func TestNoBoardOfWorldsThatAreNotOk(t *testing.T) {
	for _, no := range notOkWorlds(t, handWorld(t)) {
		if got := impl.DskBoard(no); len(got) != 0 {
			t.Fatalf("%q, of %+v", got, no)
		}
	}
	r := rand.New(rand.NewSource(128))
	none, some := 0, 0
	for _, w := range someWorlds(129, 40, 40) {
		for range 20 {
			other := copyOfWorld(w)
			turnWorld(r, &other)
			got := impl.DskBoard(other)
			if !slices.Equal(got, plainlyBoard(other)) {
				t.Fatalf("%q, not %q, of %+v", got, plainlyBoard(other), other)
			}
			if len(got) == 0 {
				none++
			} else {
				some++
			}
		}
	}
	if none < 100 || some < 100 {
		t.Fatal(none, some)
	}
}

// No call changes what is handed in, nor what lies behind its end; no answer shares memory with it, nor two lines of one answer with each other; and none is kept.
func TestBoardsLieApart(t *testing.T) {
	for _, w := range append(someWorlds(130, 30, 60), handWorld(t), impl.GrpNew(3), impl.GrpWorld{}) {
		w = apartWorld(w)
		was := wholeWorld(w)
		for range 2 {
			got := impl.DskBoard(w)
			lieApart(t, w, got, impl.DskBoard(w))
			if is := wholeWorld(w); !reflect.DeepEqual(is, was) {
				t.Fatalf("%+v turned, and was %+v", is, was)
			}
			if !slices.Equal(got, plainlyBoard(w)) {
				t.Fatalf("%q, of %+v", got, w)
			}
			turn(got, "turned")
		}
	}
}
