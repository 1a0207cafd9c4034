package tests

import (
	"math/rand"
	"slices"
	"strings"
	"testing"
	"unsafe"

	"loop.example/keyward/impl"
)

func TestNumbersOfWhatCanBeKnown(t *testing.T) {
	if impl.KnwMost != 400 {
		t.Fatal(impl.KnwMost)
	}
}

// Promise 1.
func TestAllBoxesAreOpenedThatCanBe(t *testing.T) {
	r := rand.New(rand.NewSource(11))
	names := fewNames()
	for range 4000 {
		known, boxes := pick(r, names, 4), pickBoxes(r, names, 12)
		open := impl.KnwOpen(known, boxes)
		for _, s := range known {
			if !slices.Contains(open, s) {
				t.Fatalf("%q was known, and is not, of %q and %q", s, known, boxes)
			}
		}
		var inside []string
		for _, b := range boxes {
			if impl.KnwMake(open, b.Key) {
				inside = append(inside, b.Secret)
				if !slices.Contains(open, b.Secret) {
					t.Fatalf("%q is not opened, of %q and %q", b, known, boxes)
				}
			}
		}
		for i, s := range open {
			if !slices.Contains(known, s) && !slices.Contains(inside, s) {
				t.Fatalf("%q is known, of %q and %q", s, known, boxes)
			}
			if slices.Index(open, s) != i {
				t.Fatalf("%q is known twice, of %q and %q", s, known, boxes)
			}
		}
		if again := impl.KnwOpen(open, boxes); !slices.Equal(again, open) {
			t.Fatalf("once more it is %q, not %q, of %q and %q", again, open, known, boxes)
		}
	}
}

// Promise 1: and in which order, by the words of the document alone.
func TestWhatIsOpenedRoundByRound(t *testing.T) {
	r := rand.New(rand.NewSource(12))
	names := fewNames()
	for range 6000 {
		known, boxes := pick(r, names, 3), pickBoxes(r, names, 14)
		if got, want := impl.KnwOpen(known, boxes), plainlyOpen(known, boxes); !slices.Equal(got, want) {
			t.Fatalf("%q, not %q, of %q and %q", got, want, known, boxes)
		}
	}
}

// Promise 1: boxes whose keys are in later ones, or can be made only from what later ones have in them.
func TestBoxesWhoseKeysAreInOthers(t *testing.T) {
	for _, c := range []struct {
		what  string
		known string
		boxes string
		want  string
	}{
		{"no boxes", "B1; A1; nA1;", "", "B1; A1; nA1;"},
		{"known twice", "B1; A1; B1; A1;", "", "B1; A1;"},
		{"a key is known itself", "kA1;", "kA1; B1;", "kA1; B1;"},
		{"a key is made", "A1;", "knnA1; B1;", "A1; B1;"},
		{"a key that cannot be", "A1;", "kA2; B1; nB1; C1;", "A1;"},
		{"one behind the other", "A1;", "kA1; B1; kB1; C1; kC1; D1;", "A1; B1; C1; D1;"},
		{"last first", "A1;", "kC1; D1; kB1; C1; kA1; B1;", "A1; B1; C1; D1;"},
		{"the key itself is in a later one", "A1;", "kB1; C1; kA1; kB1;", "A1; kB1; C1;"},
		{"a key of two later ones", "A1;", "keB1;C1; D1; kA1; B1; kA1; C1;", "A1; B1; C1; D1;"},
		{"a key of two, one of them shut", "A1;", "keB1;C1; D1; kA1; B1; kD1; C1;", "A1; B1;"},
		{"a key of what is made from a later one", "A1;", "mBr3nB1; D1; kA1; B1;", "A1; B1; D1;"},
		{"in the same round, and in the next", "A1;", "kB1; D1; kA1; B1; kB1; E1; kD1; F1;", "A1; B1; E1; D1; F1;"},
		{"in two boxes", "A1;", "kB1; C1; kA1; C1; kA1; B1;", "A1; C1; B1;"},
		{"one box twice", "A1;", "kA1; B1; kA1; B1;", "A1; B1;"},
		{"known, and in a box", "A1; B1;", "kA1; B1; kB1; A1;", "A1; B1;"},
		{"can be made, and is in a box", "A1;", "kA1; nA1; kA1; mBA1;", "A1; nA1; mBA1;"},
		{"a key in its own box", "A1;", "kB1; kB1; kC1; C1;", "A1;"},
		{"each in the other", "A1;", "kB1; C1; kC1; B1;", "A1;"},
		{"each in the other, and one opened", "A1;", "kB1; C1; kC1; B1; kA1; C1;", "A1; C1; B1;"},
		{"a key that is no SecKey", "A1;", "A1; B1; nB1; C1; eA1;C1; D1;", "A1; B1; C1; D1;"},
		{"from a key nothing goes back", "kA1;", "A1; B1; nA1; C1; kkA1; D1;", "kA1; D1;"},
		{"in which order it was known", "H9; A1; eA1;A1;", "kA1; C1; kH9; B1;", "H9; A1; eA1;A1; C1; B1;"},
	} {
		known, boxes := strings.Fields(c.known), []impl.KnwBox{}
		for pair := range slices.Chunk(strings.Fields(c.boxes), 2) {
			boxes = append(boxes, impl.KnwBox{Key: pair[0], Secret: pair[1]})
		}
		if got := impl.KnwOpen(known, boxes); !slices.Equal(got, strings.Fields(c.want)) {
			t.Errorf("%s: %q, not %q", c.what, got, c.want)
		}
	}
}

// Promise 17.
func TestWhatCanBeMadeCanBeMadeFromMore(t *testing.T) {
	r := rand.New(rand.NewSource(13))
	names := fewNames()
	for range 300 {
		known, others := pick(r, names, 4), pick(r, names, 4)
		for _, s := range known {
			if !impl.KnwMake(known, s) {
				t.Fatalf("%q is known, and cannot be made, from %q", s, known)
			}
		}
		for _, s := range names {
			if !impl.KnwMake(known, s) {
				continue
			}
			if !impl.KnwMake(behind(known, others), s) || !impl.KnwMake(behind(others, known), s) {
				t.Fatalf("%q can be made from %q, but not with %q", s, known, others)
			}
			what := []string{impl.MakNext(s), impl.MakKey(s), impl.MakSay(s, 0), impl.MakSay(s, 7), impl.MakRoom(s, 1), impl.MakRoom(s, 9), impl.MakEpoch(s, s)}
			for _, k := range known {
				what = append(what, impl.MakEpoch(s, k), impl.MakEpoch(k, s))
			}
			for _, x := range what {
				if !impl.KnwMake(known, x) {
					t.Fatalf("%q can be made from %q, but not %q", s, known, x)
				}
			}
		}
	}
}

// Promises 17 and 86: just what can be made, by the words of the document alone.
func TestWhatCanBeMade(t *testing.T) {
	r := rand.New(rand.NewSource(14))
	few, some := fewNames(), someNames()
	for range 300 {
		known := pick(r, few, 4)
		for _, s := range few {
			if got := impl.KnwMake(known, s); got != plainlyMake(known, s) {
				t.Fatalf("from %q %q: %v", known, s, got)
			}
		}
		known = pick(r, some, 40)
		for range 20 {
			s := some[r.Intn(len(some))]
			if got := impl.KnwMake(known, s); got != plainlyMake(known, s) {
				t.Fatalf("from %q %q: %v", known, s, got)
			}
		}
	}
	for _, c := range []struct {
		known string
		s     string
		want  bool
	}{
		{"A1;", "A1;", true}, {"A1;", "A2;", false}, {"A1;", "B1;", false}, {"A1;", "A11;", false}, {"A11;", "A1;", false},
		{"A1;", "nkmBr3A1;", true}, {"A1;", "nkmBr3A2;", false}, {"kA1;", "nkA1;", true}, {"kA1;", "knA1;", false},
		{"A1; B1;", "eA1;B1;", true}, {"A1; B1;", "eB1;A1;", true}, {"A1;", "eA1;A1;", true}, {"A1;", "eA1;B1;", false}, {"B1;", "eA1;B1;", false},
		{"A1; B1;", "eneA1;B1;kA1;", true}, {"eA1;B1; A1;", "eneA1;B1;kA1;", true}, {"eA1;B1;", "eneA1;B1;kA1;", false}, {"eA1;B1;", "eB1;A1;", false},
		{"mAA1;", "mBA1;", false}, {"r1A1;", "r2A1;", false}, {"nA1;", "nnA1;", true}, {"nnA1;", "nA1;", false},
	} {
		if got := impl.KnwMake(strings.Fields(c.known), c.s); got != c.want {
			t.Errorf("from %q %q: %v", c.known, c.s, got)
		}
	}
}

// Promise 18.
func TestFromWhatWasMadeNothingGoesBack(t *testing.T) {
	names := someNames()
	for i, s := range names {
		what := []string{impl.MakNext(s), impl.MakKey(s)}
		for who := range impl.SecMany {
			what = append(what, impl.MakSay(s, who))
		}
		for room := 1; room <= impl.SecRooms; room++ {
			what = append(what, impl.MakRoom(s, room))
		}
		for _, x := range what {
			if x != "" && (!impl.KnwMake([]string{x}, x) || impl.KnwMake([]string{x}, s) || impl.KnwHas([]string{x}, nil, s)) {
				t.Fatalf("from %q alone: %q", x, s)
			}
		}
		for _, other := range []string{s, names[(i*7+1)%len(names)], "A1;", "B2;"} {
			for _, e := range []string{impl.MakEpoch(s, other), impl.MakEpoch(other, s)} {
				if e != "" && (!impl.KnwMake([]string{e}, e) || impl.KnwMake([]string{e}, s) || impl.KnwMake([]string{e}, other)) {
					t.Fatalf("from %q alone: %q or %q", e, s, other)
				}
			}
		}
	}
}

// Promise 19: KnwHas is KnwMake from KnwOpen; with more nothing is known less.
func TestWhatCanBeKnown(t *testing.T) {
	r := rand.New(rand.NewSource(15))
	names := fewNames()
	for range 700 {
		known, boxes := pick(r, names, 3), pickBoxes(r, names, 10)
		moreKnown, moreBoxes := behind(known, pick(r, names, 2)), behind(boxes, pickBoxes(r, names, 3))
		open := impl.KnwOpen(known, boxes)
		for _, s := range names {
			has := impl.KnwHas(known, boxes, s)
			if has != impl.KnwMake(open, s) || has != plainlyMake(plainlyOpen(known, boxes), s) {
				t.Fatalf("%q: %v, of %q and %q", s, has, known, boxes)
			}
			if has && !(impl.KnwHas(moreKnown, boxes, s) && impl.KnwHas(known, moreBoxes, s) && impl.KnwHas(moreKnown, moreBoxes, s)) {
				t.Fatalf("%q can be known of %q and %q, but not of %q and %q", s, known, boxes, moreKnown, moreBoxes)
			}
		}
	}
}

// Promise 19: in which order boxes come makes no difference.
func TestBoxesInEveryOrder(t *testing.T) {
	r := rand.New(rand.NewSource(16))
	names := fewNames()
	some := [][]impl.KnwBox{
		{{Key: "kA1;", Secret: "B1;"}, {Key: "kB1;", Secret: "C1;"}, {Key: "keB1;C1;", Secret: "D1;"}, {Key: "nD1;", Secret: "kE1;"}, {Key: "kE1;", Secret: "F1;"}},
		{{Key: "kA1;", Secret: "B1;"}, {Key: "kB1;", Secret: "C1;"}, {Key: "kC1;", Secret: "B1;"}, {Key: "kD1;", Secret: "E1;"}, {Key: "kE1;", Secret: "D1;"}},
	}
	for range 40 {
		some = append(some, pickBoxes(r, names, 5))
	}
	for i, boxes := range some {
		known := []string{"A1;"}
		if i > 1 {
			known = pick(r, names, 2)
		}
		want := inOrder(impl.KnwOpen(known, boxes))
		for _, o := range orders(boxes) {
			if got := inOrder(impl.KnwOpen(known, o)); !slices.Equal(got, want) {
				t.Fatalf("%q, not %q, of %q and %q", got, want, known, o)
			}
			for _, s := range []string{"D1;", "F1;", "kE1;", "eA1;A2;", "knB1;", "mBC1;"} {
				if impl.KnwHas(known, o, s) != impl.KnwHas(known, boxes, s) {
					t.Fatalf("%q, of %q and %q", s, known, o)
				}
			}
		}
	}
}

// Promise 57.
func TestFromNothingNothingComes(t *testing.T) {
	r := rand.New(rand.NewSource(17))
	names := fewNames()
	for range 200 {
		boxes := pickBoxes(r, names, 20)
		for _, none := range [][]string{nil, {}, make([]string, 0, 4)} {
			if open := impl.KnwOpen(none, boxes); len(open) != 0 {
				t.Fatalf("%q is opened from nothing: %q", boxes, open)
			}
			for _, s := range append(names, "") {
				if impl.KnwMake(none, s) || impl.KnwHas(none, boxes, s) || impl.KnwHas(none, nil, s) {
					t.Fatalf("%q comes from nothing, and %q", s, boxes)
				}
			}
		}
	}
	if len(impl.KnwOpen(nil, nil)) != 0 {
		t.Fatal("something is known of nothing")
	}
}

// Promise 58.
func TestBoxByBoxAllIsOpened(t *testing.T) {
	r := rand.New(rand.NewSource(18))
	for _, many := range []int{1, 2, 3, 10, 99, impl.KnwMost - 1, impl.KnwMost} {
		secrets := manySecrets(many + 1)
		first, last := secrets[0], secrets[many]
		boxes := chainOf(secrets)
		if got := impl.KnwOpen([]string{first}, boxes); !slices.Equal(got, secrets) {
			t.Fatalf("of %d boxes %q", many, got)
		}
		turned := slices.Clone(boxes)
		slices.Reverse(turned)
		mixed := slices.Clone(boxes)
		r.Shuffle(many, func(i, j int) { mixed[i], mixed[j] = mixed[j], mixed[i] })
		for _, b := range [][]impl.KnwBox{boxes, turned, mixed} {
			if got := inOrder(impl.KnwOpen([]string{first}, b)); !slices.Equal(got, inOrder(secrets)) {
				t.Fatalf("of %d boxes %q", many, got)
			}
			if got := impl.KnwOpen([]string{last}, b); !slices.Equal(got, []string{last}) {
				t.Fatalf("of %d boxes, from the last, %q", many, got)
			}
			if !impl.KnwHas([]string{first}, b, last) || !impl.KnwHas([]string{first}, b, "e"+first+last) {
				t.Fatalf("of %d boxes the last has %q", many, last)
			}
			if impl.KnwHas([]string{last}, b, first) || many > 1 && impl.KnwHas([]string{last}, b, secrets[many-1]) {
				t.Fatalf("of %d boxes more is known from the last", many)
			}
		}
	}
}

// Promise 59.
func TestWhoKnowsMoreOpensMore(t *testing.T) {
	r := rand.New(rand.NewSource(19))
	names := fewNames()
	for range 2000 {
		known, others, boxes := pick(r, names, 3), pick(r, names, 3), pickBoxes(r, names, 10)
		open := impl.KnwOpen(known, boxes)
		for _, more := range [][]string{behind(known, others), behind(others, known)} {
			opened := impl.KnwOpen(more, boxes)
			for _, s := range open {
				if !slices.Contains(opened, s) {
					t.Fatalf("%q is known of %q, not of %q, and %q", s, known, more, boxes)
				}
			}
		}
		if twice := impl.KnwOpen(behind(known, known), boxes); !slices.Equal(twice, open) {
			t.Fatalf("%q, not %q, of %q twice, and %q", twice, open, known, boxes)
		}
		for i := range known {
			if twice := impl.KnwOpen(behind(known, known[i:i+1]), boxes); !slices.Equal(twice, open) {
				t.Fatalf("%q, not %q, of %q, its %d twice, and %q", twice, open, known, i, boxes)
			}
		}
	}
}

// Promise 86.
func TestWhatCanBeMadeIsMadeFromWhatCanBe(t *testing.T) {
	r := rand.New(rand.NewSource(20))
	names := behind(fewNames(), someNames())
	made := 0
	for range 300 {
		known := pick(r, names, 30)
		for _, s := range behind(fewNames(), pick(r, names, 20)) {
			if slices.Contains(known, s) || !impl.KnwMake(known, s) {
				continue
			}
			made++
			h := impl.SecMade(s)
			if h.Op == impl.SecNew || !impl.KnwMake(known, h.A) || h.Op == impl.SecEpoch && !impl.KnwMake(known, h.B) {
				t.Fatalf("%q can be made from %q", s, known)
			}
		}
	}
	if made < 100 {
		t.Fatalf("only %d were made", made)
	}
}

// The edges: just KnwMost secrets, or boxes, and one more.
func TestJustSoManySecretsAndBoxes(t *testing.T) {
	most := manySecrets(impl.KnwMost + 1)
	just, twice := most[:impl.KnwMost], slices.Repeat([]string{"A1;"}, impl.KnwMost+1)
	boxes := chainOf(manySecrets(impl.KnwMost + 2))
	if got := impl.KnwOpen(just, nil); !slices.Equal(got, just) || !impl.KnwMake(just, just[impl.KnwMost-1]) || !impl.KnwHas(just, nil, "n"+just[0]) {
		t.Fatal("just KnwMost secrets")
	}
	if got := impl.KnwOpen(twice[1:], nil); !slices.Equal(got, []string{"A1;"}) || !impl.KnwMake(twice[1:], "A1;") || !impl.KnwHas(twice[1:], nil, "A1;") {
		t.Fatal("one secret KnwMost times")
	}
	for _, known := range [][]string{most, twice} {
		if len(impl.KnwOpen(known, nil)) != 0 || impl.KnwMake(known, "A1;") || impl.KnwHas(known, nil, "A1;") || impl.KnwHas(known, boxes[:1], "A2;") {
			t.Fatal("one secret more than KnwMost")
		}
	}
	if len(impl.KnwOpen(just[:1], boxes[:impl.KnwMost])) != impl.KnwMost+1 || !impl.KnwHas(just[:1], boxes[:impl.KnwMost], most[impl.KnwMost]) {
		t.Fatal("just KnwMost boxes")
	}
	if len(impl.KnwOpen(just[:1], boxes)) != 0 || impl.KnwHas(just[:1], boxes, "A1;") {
		t.Fatal("one box more than KnwMost")
	}
	if len(impl.KnwOpen(just[:1], slices.Repeat(boxes[:1], impl.KnwMost+1))) != 0 || len(impl.KnwOpen(just[:1], slices.Repeat(boxes[:1], impl.KnwMost))) != 2 {
		t.Fatal("one box KnwMost times, and once more")
	}
}

// Just KnwMost of both, with names as long as they may be, come to an end soon, and all is known, though that is more than KnwMost.
func TestAsMuchAsThereMayBe(t *testing.T) {
	all := manySecrets(2 * 390)
	known := slices.Repeat([]string{all[0]}, impl.KnwMost)
	copy(known, all[:390])
	var boxes []impl.KnwBox
	for i := 389; i < len(all)-1; i++ {
		key := strings.Repeat("n", impl.SecLong-len(all[i])) + all[i]
		boxes = append(boxes, impl.KnwBox{Key: key, Secret: all[i+1]})
	}
	slices.Reverse(boxes)
	if got := impl.KnwOpen(known, boxes); !slices.Equal(inOrder(got), inOrder(all)) {
		t.Fatalf("%d are known, not %d", len(got), len(all))
	}
	if last := all[len(all)-1]; !impl.KnwHas(known, boxes, last) {
		t.Fatal("the last one's secret")
	}
}

// Wrong inputs: a name that is none, wherever it stands, makes all false, or none.
func TestWhatIsNoNameIsNotKnown(t *testing.T) {
	box := impl.KnwBox{Key: "kA1;", Secret: "B1;"}
	for _, no := range noNames() {
		for _, known := range [][]string{{no}, {no, "A1;"}, {"A1;", no}, {"A1;", no, "B1;"}} {
			for _, s := range []string{"A1;", "nA1;", no} {
				if impl.KnwMake(known, s) || impl.KnwHas(known, nil, s) || impl.KnwHas(known, []impl.KnwBox{box}, s) {
					t.Errorf("%.40q is among what is known, and %.40q can be made", no, s)
				}
			}
			if len(impl.KnwOpen(known, nil)) != 0 || len(impl.KnwOpen(known, []impl.KnwBox{box})) != 0 {
				t.Errorf("%.40q is among what is known", no)
			}
		}
		for _, bad := range []impl.KnwBox{{Key: no, Secret: "C1;"}, {Key: "kA1;", Secret: no}, {Key: "kD1;", Secret: no}, {Key: no, Secret: no}} {
			for _, boxes := range [][]impl.KnwBox{{bad}, {bad, box}, {box, bad}} {
				if len(impl.KnwOpen([]string{"A1;"}, boxes)) != 0 || impl.KnwHas([]string{"A1;"}, boxes, "A1;") || impl.KnwHas([]string{"A1;"}, boxes, no) {
					t.Errorf("%.40q is in a box, or its key", no)
				}
			}
		}
		if impl.KnwMake([]string{"A1;"}, no) || impl.KnwHas([]string{"A1;"}, nil, no) || impl.KnwHas([]string{"A1;"}, []impl.KnwBox{box}, no) {
			t.Errorf("%.40q can be made", no)
		}
	}
}

// Nothing is written into an argument, or behind its end.
func TestWhatIsAskedStaysAsItWas(t *testing.T) {
	known := []string{"A1;", "A1;", "C1;", "x", "y", "z"}
	boxes := []impl.KnwBox{{Key: "kB1;", Secret: "D1;"}, {Key: "kA1;", Secret: "B1;"}, {Key: "x", Secret: "x"}, {Key: "y", Secret: "y"}}
	k, b := slices.Clone(known), slices.Clone(boxes)
	open := impl.KnwOpen(known[:3], boxes[:2])
	if !slices.Equal(open, []string{"A1;", "C1;", "B1;", "D1;"}) || !impl.KnwHas(known[:3], boxes[:2], "D1;") || !impl.KnwMake(known[:3], "nC1;") {
		t.Fatal(open)
	}
	open[0] = "turned"
	for i := range open[:cap(open)] {
		open[:cap(open)][i] = "turned"
	}
	if !slices.Equal(k, known) || !slices.Equal(b, boxes) {
		t.Fatal(known, boxes)
	}
}

// An answer is new memory: no name in it lies in what was asked.
func TestWhatIsKnownIsNewMemory(t *testing.T) {
	known := []string{strings.Clone("A1;"), strings.Clone("nB1;")}
	boxes := []impl.KnwBox{{Key: strings.Clone("kA1;"), Secret: strings.Clone("C1;")}}
	given := map[*byte]int{}
	for i, s := range append(known[:2:2], boxes[0].Key, boxes[0].Secret) {
		given[unsafe.StringData(s)] = i
	}
	open := impl.KnwOpen(known, boxes)
	if len(open) != 3 {
		t.Fatal(open)
	}
	for _, s := range open {
		if i, ok := given[unsafe.StringData(s)]; ok {
			t.Fatalf("%q shares its memory with what was given as %d", s, i)
		}
	}
}
