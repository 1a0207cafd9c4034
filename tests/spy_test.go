package tests

import (
	"math/rand"
	"reflect"
	"slices"
	"strings"
	"testing"

	"loop.example/keyward/impl"
)

// Promise 46: commit by commit, its boxes, and behind them what one who comes is told.
func TestAllThatGoesOverTheLogIsTold(t *testing.T) {
	most := 0
	for _, w := range someWorlds(111, 150, 90) {
		got := impl.SpyBoxes(w)
		if !slices.Equal(got, plainlyBoxes(w)) {
			t.Fatalf("%+v, of %+v", got, w.Log)
		}
		for _, c := range w.Log {
			own := 0
			if c.Add >= 0 {
				own = 2
			}
			if !slices.Equal(got[:len(c.Boxes)], c.Boxes) {
				t.Fatalf("%+v, of %+v", got, c)
			}
			told := got[len(c.Boxes) : len(c.Boxes)+own]
			if own == 2 && !slices.Equal(told, []impl.KnwBox{c.Welcome.Init, c.Welcome.Secret}) {
				t.Fatalf("%+v, of %+v", told, c)
			}
			got = got[len(c.Boxes)+own:]
		}
		if len(got) != 0 {
			t.Fatalf("%+v are of no commit", got)
		}
		most = max(most, len(w.Log))
	}
	if most != impl.LogMost {
		t.Fatal(most)
	}
}

// Promise 46: a group by hand, from who begins on.
func TestBoxesByHand(t *testing.T) {
	look := func(w impl.GrpWorld, want string) {
		t.Helper()
		if got := boxesOf(impl.SpyBoxes(w)); got != want {
			t.Fatalf("%s, not %s", got, want)
		}
	}
	w := impl.GrpNew(0)
	look(w, "")
	w = steps(t, "alone", w, goesOn(0, -1, -1))
	look(w, "")
	w = steps(t, "B comes", w, goesOn(0, 1, -1))
	first := "kB2; eeA2;nnnnA3;nnnnA4; kB2; nA4;"
	look(w, first)
	w = stepsAll(t, "and C", w, joinsAt(1, 1), goesOn(1, 2, -1))
	second := " kA4; nB3; kC2; eeeA2;nnnnA3;nnnnA4;nnnnB3; kC2; nnB3;"
	look(w, first+second)
	w = stepsAll(t, "B goes", w, hearsAt(0, 2), joinsAt(2, 2), goesOn(2, -1, 1))
	look(w, first+second+" kA4; nnC3;")
	look(stepsAll(t, "all else", w, saysText(0, "hi"), isStolenOf(0), hearsAt(0, 3)), first+second+" kA4; nnC3;")
	if got := impl.SpyBoxes(impl.GrpWorld{}); len(got) != 0 {
		t.Fatalf("%+v", got)
	}
}

// notOkWorlds is worlds that are not ok, each but for one thing as one that is.
func notOkWorlds(t *testing.T, w impl.GrpWorld) []impl.GrpWorld {
	t.Helper()
	var all []impl.GrpWorld
	for _, by := range []func(w *impl.GrpWorld){
		func(w *impl.GrpWorld) { w.Seats = nil },
		func(w *impl.GrpWorld) { w.Seats = w.Seats[:7] },
		func(w *impl.GrpWorld) { w.Seats[1].Epoch = -1 },
		func(w *impl.GrpWorld) { w.Seats[0], w.Seats[1] = w.Seats[1], w.Seats[0] },
		func(w *impl.GrpWorld) { w.Waits = append(w.Waits, impl.GrpWait{Who: 8, Leaf: "A1;", Key: "A2;"}) },
		func(w *impl.GrpWorld) { w.Log[len(w.Log)-1].Sender = 8 },
		func(w *impl.GrpWorld) { w.Log[0].Keys = nil },
		func(w *impl.GrpWorld) { w.Log = append(w.Log, slices.Repeat(w.Log[:1], 16)...) },
		func(w *impl.GrpWorld) { w.Fresh[7] = 100 },
		func(w *impl.GrpWorld) { w.Said = nil },
		func(w *impl.GrpWorld) { w.Spy = append(w.Spy, "x") },
		func(w *impl.GrpWorld) { w.Spy = slices.Repeat(w.Spy[:1], 73) },
		func(w *impl.GrpWorld) { w.Stolen = append(w.Stolen, impl.GrpSteal{Who: -1}) },
		func(w *impl.GrpWorld) {
			w.Stolen = append(w.Stolen, impl.GrpSteal{Tag: strings.Repeat("A1;", 101)})
		},
		func(w *impl.GrpWorld) { w.Frames = append(w.Frames, impl.FraFrame{}) },
		func(w *impl.GrpWorld) { w.Wins = nil },
		func(w *impl.GrpWorld) { w.Told = append(w.Told, impl.GrpTold{Who: 0, At: 99}) },
		func(w *impl.GrpWorld) { w.Log[0].Boxes = append(w.Log[0].Boxes, impl.KnwBox{Key: "x", Secret: ""}) },
		func(w *impl.GrpWorld) {
			w.Log[1].Boxes = slices.Repeat([]impl.KnwBox{{Key: "kA1;", Secret: "B1;"}}, 500)
		},
	} {
		other := turnedWorld(w, by)
		if impl.GrpOk(other) || plainlyWorldOk(other) {
			t.Fatalf("%+v is ok", other)
		}
		all = append(all, other)
	}
	return append(all, impl.GrpWorld{})
}

// Promises 46, 47 and 51: of worlds that are not ok SpyBoxes tells the boxes, and the others tell nothing.
func TestWorldsThatAreNotOkToldOf(t *testing.T) {
	w := handWorld(t)
	if len(impl.SpyKnows(w)) == 0 || len(impl.SpyHears(w)) == 0 || !impl.SpyMay(w, w.Stolen[0].Tag) || !impl.SpyHealed(w, 0, "", "A3;") {
		t.Fatalf("%+v", w)
	}
	for _, no := range notOkWorlds(t, w) {
		if got, want := impl.SpyBoxes(no), plainlyBoxes(no); !slices.Equal(got, want) || len(no.Log) > 0 && len(got) == 0 {
			t.Fatalf("%+v, not %+v", got, want)
		}
		if got := impl.SpyKnows(no); len(got) != 0 {
			t.Fatalf("%q, of %+v", got, no)
		}
		if got := impl.SpyHears(no); len(got) != 0 {
			t.Fatalf("%v, of %+v", got, no)
		}
		for _, s := range append(slices.Clone(w.Spy), "x", "", "A1;", w.Seats[0].Init) {
			if impl.SpyHas(no, s) {
				t.Fatalf("%q, of %+v", s, no)
			}
		}
		for _, x := range w.Stolen {
			if impl.SpyMay(no, x.Tag) || impl.SpyHealed(no, 0, "", "A3;") || impl.SpyHealed(no, 5, "", w.Log[4].Tag+w.Log[4].Name) {
				t.Fatalf("%+v", no)
			}
		}
	}
	// By commits that are not ok: just those by which one of the eight comes have a welcome.
	for _, add := range append(outOf(0, impl.SecMany-1), -1) {
		no := turnedWorld(w, func(w *impl.GrpWorld) { w.Log[2].Add = add })
		if got, want := impl.SpyBoxes(no), plainlyBoxes(no); !slices.Equal(got, want) || len(got) != len(plainlyBoxes(w))-2 {
			t.Fatalf("%+v, not %+v", got, want)
		}
	}
	many := turnedWorld(w, func(w *impl.GrpWorld) { w.Log = slices.Repeat(w.Log, 300) })
	if got := impl.SpyBoxes(many); len(got) != 300*len(plainlyBoxes(w)) || impl.SpyHas(many, w.Spy[0]) {
		t.Fatal(len(got))
	}
}

// Promise 47: what was stolen, each once, and then what is opened; SpyHas and SpyHears are made from that; by the words of the document alone.
func TestWhatCanBeKnownIsTold(t *testing.T) {
	r := rand.New(rand.NewSource(112))
	opened, heard, made, not := 0, 0, 0, 0
	for i, w := range someWorlds(113, 200, 50) {
		if i%2 == 0 {
			w = boxedWorld(r, w)
		}
		if !impl.GrpOk(w) {
			t.Fatalf("%+v", w)
		}
		known, want := impl.SpyKnows(w), plainlyKnows(w)
		if !slices.Equal(known, want) {
			t.Fatalf("%q, not %q, of %+v", known, want, w)
		}
		var once []string
		for _, s := range w.Spy {
			if !slices.Contains(once, s) {
				once = append(once, s)
			}
		}
		if !slices.Equal(known[:len(once)], once) {
			t.Fatalf("%q does not begin with %q", known, once)
		}
		opened += len(known) - len(once)
		hears := impl.SpyHears(w)
		if want := plainlyHears(w); !slices.Equal(hears, want) {
			t.Fatalf("%v, not %v, of %+v", hears, want, w)
		}
		heard += len(hears)
		for at, f := range w.Frames {
			if got := slices.Contains(hears, at); got != impl.SpyHas(w, f.Key) || got != impl.KnwMake(known, f.Key) {
				t.Fatalf("frame %d, of %q", at, known)
			}
		}
		for range 20 {
			s := someSecretOf(r, w)
			got := impl.SpyHas(w, s)
			if got != impl.KnwMake(known, s) || got != (plainlyName(s) && plainlyMake(known, s)) {
				t.Fatalf("%v, of %q and %q", got, s, known)
			}
			if got {
				made++
			} else {
				not++
			}
		}
	}
	if opened < 300 || heard < 500 || made < 500 || not < 1000 {
		t.Fatal(opened, heard, made, not)
	}
}

// someSecretOf is a secret that may be asked of a world: one that somebody has, that waits in it, or lies in a box, or is made from one of these; now and then no name.
func someSecretOf(r *rand.Rand, w impl.GrpWorld) string {
	all := append(fewNames(), noNames()[r.Intn(len(noNames()))])
	all = append(all, w.Spy...)
	for _, m := range w.Seats {
		all = append(all, impl.MemKnows(m)...)
	}
	for _, b := range plainlyBoxes(w) {
		all = append(all, b.Key, b.Secret)
	}
	for _, x := range w.Waits {
		all = append(all, x.Leaf, x.Key)
	}
	s := all[r.Intn(len(all))]
	return []string{"", "", "", "n", "k", "mA", "r9", "e" + all[r.Intn(len(all))]}[r.Intn(8)] + s
}

// Promise 47: by hand; who has stolen nothing knows nothing, who steals knows what goes on, as far as boxes tell.
func TestWhatIsKnownByHand(t *testing.T) {
	w := stepsAll(t, "begins", grownBy(t, 0, 1, 2), saysText(0, "one"))
	look := func(w impl.GrpWorld, want string, frames ...int) {
		t.Helper()
		if got := strings.Join(impl.SpyKnows(w), " "); got != want {
			t.Fatalf("%s, not %s", got, want)
		}
		if got := impl.SpyHears(w); !slices.Equal(got, frames) {
			t.Fatalf("%v, not %v", got, frames)
		}
		for _, s := range strings.Fields(want) {
			if !impl.SpyHas(w, s) {
				t.Fatalf("%s is not known", s)
			}
		}
	}
	look(w, "")
	w = stepsAll(t, "of B", w, isStolenOf(1))
	ofB := "B1; nA4; nnA4; nnnA4; eeA2;nnnnA3;nnnnA4;"
	look(w, ofB, 0)
	look(steps(t, "once more", w, isStolenOf(1)), ofB, 0)
	look(steps(t, "of A as well", w, isStolenOf(0)), ofB+" A4;", 0)
	w = stepsAll(t, "A goes on", w, goesOn(0, -1, -1), saysText(0, "two"))
	look(w, ofB+" nA5;", 0, 1)
	for s, want := range map[string]bool{"nA5;": true, "A5;": false, "nnnnA5;": true, "eeeA2;nnnnA3;nnnnA4;nnnnA5;": true, "eA2;nnnnA3;": false, "A4;": false, "kB1;": true, "nB1;": true, "r3eeA2;nnnnA3;nnnnA4;": true, "r3A2;": false,
		"": false, "x": false, "B1": false, "B1;;": false, "eeeA2;nnnnA3;nnnnA4;B1;": true, "eeA2;nnnnA3;nnnnA4;B1;": false, "eB1;C1;": false, "mCeeA2;nnnnA3;nnnnA4;": true, "mIeeA2;nnnnA3;nnnnA4;": false} {
		if impl.SpyHas(w, s) != want {
			t.Errorf("%q is not %v", s, want)
		}
	}
	w = stepsAll(t, "B goes on", w, hearsAt(1, 2), goesOn(1, -1, -1), saysText(1, "three"))
	look(w, ofB+" nA5;", 0, 1)
	// A, who has not heard that, is told more; and C, of whom nothing was stolen, is not.
	w = stepsAll(t, "of A", w, isStolenOf(0))
	look(w, ofB+" A5; nA5; nnA5; nnnA5; eeeA2;nnnnA3;nnnnA4;nnnnA5; nB3;", 0, 1, 2)
}

// Promise 47: boxes whose keys are in other boxes, ahead of them or behind, in one commit or more, and in a welcome, in a world that was written.
func TestBoxesInWelcomes(t *testing.T) {
	w := stepsAll(t, "three come", impl.GrpNew(0), goesOn(0, 1, -1), goesOn(0, 2, -1), goesOn(0, 3, -1))
	w.Log[0].Boxes = []impl.KnwBox{{Key: "kH1;", Secret: "H2;"}, {Key: "keA2;nnnnA3;", Secret: "H3;"}}
	w.Log[1].Boxes = []impl.KnwBox{{Key: "kH3;", Secret: "C2;"}, {Key: "kH9;", Secret: "H1;"}}
	w.Log[2].Boxes = []impl.KnwBox{{Key: "knnA4;", Secret: "H9;"}, {Key: "kA1;", Secret: "A1;"}}
	for _, c := range []struct {
		spy  []string
		want string
	}{
		{nil, ""},
		{[]string{"A90;"}, "A90;"},
		{[]string{"B1;"}, "B1;"},
		{[]string{"B2;"}, "B2; eA2;nnnnA3; nA3; H3; C2; eeA2;nnnnA3;nnnnA4; nnA4; H9; H1; H2;"},
		{[]string{"C2;"}, "C2; eeA2;nnnnA3;nnnnA4; nnA4; H9; H1; H2;"},
		{[]string{"H9;", "A90;", "H9;"}, "H9; A90; H1; H2;"},
		{[]string{"D2;"}, "D2; eeeA2;nnnnA3;nnnnA4;nnnnA5; nnA5;"},
		{[]string{"kC2;", "kH3;"}, "kC2; kH3; C2; eeA2;nnnnA3;nnnnA4; nnA4; H9; H1; H2;"},
		{[]string{"A2;", "nnnnA3;"}, "A2; nnnnA3; H3; C2; eeA2;nnnnA3;nnnnA4; nnA4; H9; H1; H2;"},
		{[]string{"A1;"}, "A1;"},
	} {
		w.Spy = c.spy
		if got := strings.Join(impl.SpyKnows(w), " "); got != c.want || !slices.Equal(impl.SpyKnows(w), plainlyKnows(w)) {
			t.Errorf("%s, not %s, of %q", got, c.want, c.spy)
		}
		// That it is known hangs on what was stolen, not on of whom.
		other := turnedWorld(w, func(w *impl.GrpWorld) { w.Stolen = []impl.GrpSteal{{Who: 7, Tag: "x"}} })
		if !slices.Equal(impl.SpyKnows(other), impl.SpyKnows(w)) {
			t.Errorf("%q", impl.SpyKnows(other))
		}
	}
}

// Promise 47: frames of which all, some or none can be opened.
func TestWhichFramesAreOpened(t *testing.T) {
	w := grownBy(t, 0, 1)
	none := stepsAll(t, "said", w, saysText(0, "a"), saysText(1, "b"), saysText(0, ""))
	if got := impl.SpyHears(none); len(got) != 0 {
		t.Fatal(got)
	}
	all := steps(t, "stolen", none, isStolenOf(1))
	if got := impl.SpyHears(all); !slices.Equal(got, []int{0, 1, 2}) {
		t.Fatal(got)
	}
	some := stepsAll(t, "healed, and then not", all, goesOn(1, -1, -1), saysText(1, "c"), saysText(0, "d"), hearsAt(0, 1), saysText(0, "e"), isStolenOf(0), saysText(0, "f"), goesOn(1, -1, 0), saysText(1, "g"))
	if got := impl.SpyHears(some); !slices.Equal(got, []int{0, 1, 2, 3, 4, 5, 6}) {
		t.Fatal(got)
	}
	some.Spy, some.Stolen = some.Spy[:5], some.Stolen[:1]
	if got := impl.SpyHears(some); !slices.Equal(got, []int{0, 1, 2, 4}) {
		t.Fatal(got)
	}
	// What one says with alone opens just its frames.
	some.Spy = []string{some.Frames[1].Key}
	if got := impl.SpyHears(some); !slices.Equal(got, []int{1}) {
		t.Fatal(got)
	}
	if got := impl.SpyHears(impl.GrpNew(0)); len(got) != 0 {
		t.Fatal(got)
	}
	for len(all.Frames) < impl.SayMost {
		all = steps(t, "one more", all, saysText(len(all.Frames)%2, "x"))
	}
	if got := impl.SpyHears(all); len(got) != impl.SayMost || got[39] != 39 {
		t.Fatal(got)
	}
}

// The edges: what is no name is not known, nor what is longer than SecLong bytes, though it be made from what is known.
func TestWhatIsNoNameIsNotKnownInAWorld(t *testing.T) {
	w := steps(t, "stolen", impl.GrpNew(0), isStolenOf(0))
	for size := 3; size <= impl.SecLong+2; size++ {
		if got := impl.SpyHas(w, nameOfSize(size)); got != (size <= impl.SecLong) {
			t.Fatalf("%v, of %d bytes", got, size)
		}
	}
	for _, no := range noNames() {
		if impl.SpyHas(w, no) {
			t.Errorf("%.40q is known", no)
		}
	}
	w.Spy = append(w.Spy, nameOfSize(impl.SecLong))
	if !impl.SpyHas(w, nameOfSize(impl.SecLong)) || impl.SpyHas(w, "k"+nameOfSize(impl.SecLong)) || impl.SpyHas(w, "n"+nameOfSize(impl.SecLong)) {
		t.Fatal("just so long a name")
	}
}

// The edges: LogMost commits of 20 boxes and a welcome each, and as much stolen as may be: all is known, though that is more than KnwMost.
func TestAsMuchAsCanBeKnownInAWorld(t *testing.T) {
	secrets := manySecrets(792)
	w := stepsAll(t, "one waits", impl.GrpNew(0), goesOn(0, 1, -1))
	w.Log = slices.Repeat(w.Log, impl.LogMost)
	w.Spy = secrets[:6*impl.StoMost]
	next := 6*impl.StoMost - 1
	for at := range w.Log {
		c := copyOfCommit(w.Log[at])
		c.Boxes = nil
		for range 20 {
			c.Boxes = append(c.Boxes, impl.KnwBox{Key: "k" + secrets[next], Secret: secrets[next+1]})
			next++
		}
		c.Welcome = welcomeOf("kk"+secrets[next], secrets[next+1], secrets[next+2])
		next += 2
		w.Log[at] = c
	}
	// The last first: each round opens what lies in one commit alone.
	slices.Reverse(w.Log)
	if !impl.GrpOk(w) || len(impl.SpyBoxes(w)) != 22*impl.LogMost {
		t.Fatalf("%+v", w)
	}
	w.Frames = []impl.FraFrame{{From: 0, Key: plainlySaid(secrets[next], 0), N: 1}, {From: 0, Key: plainlySaid(secrets[next+1], 0), N: 2}}
	known := impl.SpyKnows(w)
	if len(known) != next+1 || len(known) <= impl.KnwMost || !slices.Equal(inOrder(known), inOrder(secrets[:next+1])) {
		t.Fatal(len(known), next)
	}
	if !impl.SpyHas(w, secrets[next]) || !impl.SpyHas(w, "nk"+secrets[next]) || impl.SpyHas(w, secrets[next+1]) {
		t.Fatal("of the last box")
	}
	if got := impl.SpyHears(w); !slices.Equal(got, []int{0}) {
		t.Fatal(got)
	}
}

// No call changes what is handed in, nor what lies behind its end; no answer shares memory with it, nor two texts of one answer with each other; and none is kept.
func TestWorldsListenedToStayAsTheyWere(t *testing.T) {
	r := rand.New(rand.NewSource(114))
	all := append(someWorlds(115, 20, 60), handWorld(t), impl.GrpNew(3), impl.GrpWorld{})
	for _, w := range someWorlds(116, 20, 60) {
		all = append(all, boxedWorld(r, w))
	}
	all = append(all, notOkWorlds(t, handWorld(t))...)
	for i, w := range all {
		w = apartWorld(w)
		was := wholeWorld(w)
		look := func(what string, got any) {
			t.Helper()
			lieApart(t, w, got)
			if is := wholeWorld(w); !reflect.DeepEqual(is, was) {
				t.Fatalf("%s, world %d: %+v turned, and was %+v", what, i, is, was)
			}
		}
		for range 2 {
			boxes, known, hears := impl.SpyBoxes(w), impl.SpyKnows(w), impl.SpyHears(w)
			look("boxes", boxes)
			look("knows", known)
			look("hears", hears)
			if !slices.Equal(boxes, plainlyBoxes(w)) || !slices.Equal(known, plainlyKnows(w)) || !slices.Equal(hears, plainlyHears(w)) {
				t.Fatalf("%+v, %q and %v, of %+v", boxes, known, hears, w)
			}
			turn(boxes, impl.KnwBox{Key: "turned"})
			turn(known, "turned")
			turn(hears, -1)
		}
		impl.SpyHas(w, someSecretOf(r, w))
		look("has", nil)
		for _, tag := range tagsOf(r, w) {
			impl.SpyHealed(w, r.Intn(8), "", tag)
			impl.SpyMay(w, tag)
		}
		look("healed, and may", nil)
	}
}
