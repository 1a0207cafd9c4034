package tests

import (
	"math/rand"
	"slices"
	"testing"
	"unsafe"

	"loop.example/keyward/impl"
)

func TestNumbersOfTheTree(t *testing.T) {
	if impl.TreNodes != 15 || len(overOf) != impl.TreNodes || len(ownOf) != impl.SecMany {
		t.Fatal(impl.TreNodes)
	}
}

// Promise 20.
func TestEachPlaceButTheFirstLiesUnderOne(t *testing.T) {
	for node := range impl.TreNodes {
		up := impl.TreUp(node)
		if want := plainlyUpward(node)[1:]; !slices.Equal(up, want) {
			t.Fatalf("above %d are %v, not %v", node, up, want)
		}
		if side := impl.TreSide(node); side != besideOf[node] {
			t.Fatalf("beside %d is %d", node, side)
		}
		if node == 0 {
			continue
		}
		if over := up[0]; node != 2*over+1 && node != 2*over+2 || !slices.Equal(up[1:], impl.TreUp(over)) {
			t.Fatalf("above %d are %v", node, up)
		}
		side := impl.TreSide(node)
		if side == node || !slices.Equal(impl.TreUp(side), up) || impl.TreSide(side) != node {
			t.Fatalf("beside %d is %d", node, side)
		}
	}
	if len(impl.TreUp(0)) != 0 || impl.TreSide(0) != -1 {
		t.Fatal("above the first, or beside it, is something")
	}
}

// Promise 20: above what is no place, and beside it, is nothing.
func TestNothingIsAboveWhatIsNoPlace(t *testing.T) {
	for _, node := range outOf(0, impl.TreNodes-1) {
		if up := impl.TreUp(node); len(up) != 0 {
			t.Errorf("above %d are %v", node, up)
		}
		if side := impl.TreSide(node); side != -1 {
			t.Errorf("beside %d is %d", node, side)
		}
	}
}

// Promise 21.
func TestTwoPlacesMeetOnce(t *testing.T) {
	for a := range impl.TreNodes {
		for b := range impl.TreNodes {
			m := impl.TreMeet(a, b)
			if m != impl.TreMeet(b, a) {
				t.Fatalf("%d and %d meet at %d, and at %d", a, b, m, impl.TreMeet(b, a))
			}
			if !liesFrom(a, m) || !liesFrom(b, m) {
				t.Fatalf("%d and %d meet at %d", a, b, m)
			}
			for _, p := range plainlyUpward(a) {
				if liesFrom(b, p) && !liesFrom(m, p) {
					t.Fatalf("%d and %d meet at %d, and %d is above both", a, b, m, p)
				}
			}
			if (a == b || liesFrom(b, a)) && m != a {
				t.Fatalf("%d and %d meet at %d", a, b, m)
			}
		}
	}
}

// Promise 21: nothing meets what is no place.
func TestNothingMeetsWhatIsNoPlace(t *testing.T) {
	for _, no := range outOf(0, impl.TreNodes-1) {
		for node := range impl.TreNodes {
			if impl.TreMeet(no, node) != -1 || impl.TreMeet(node, no) != -1 {
				t.Errorf("%d and %d meet", node, no)
			}
		}
		for _, other := range outOf(0, impl.TreNodes-1) {
			if impl.TreMeet(no, other) != -1 {
				t.Errorf("%d and %d meet", no, other)
			}
		}
	}
}

// Promise 22.
func TestEachInAGroupHasAPlaceOfItsOwn(t *testing.T) {
	seen := map[int]int{}
	for who := range impl.SecMany {
		p := impl.TreLeaf(who)
		if p != ownOf[who] || p < impl.TreNodes-impl.SecMany || p >= impl.TreNodes {
			t.Fatalf("the place of %d is %d", who, p)
		}
		if other, ok := seen[p]; ok {
			t.Fatalf("%d is the place of %d and %d", p, other, who)
		}
		seen[p] = who
	}
	for _, who := range outOf(0, impl.SecMany-1) {
		if p := impl.TreLeaf(who); p != -1 {
			t.Errorf("the place of %d is %d", who, p)
		}
	}
}

// Promise 23.
func TestAllAreCoveredAndNoneTwice(t *testing.T) {
	for _, keys := range someKeys() {
		for node := range impl.TreNodes {
			cover := impl.TreCover(impl.TreTree{Keys: keys}, node)
			for i, p := range cover {
				if p < 0 || p >= impl.TreNodes || keys[p] == "" || !liesFrom(p, node) {
					t.Fatalf("%d covers from %d, of %q", p, node, keys)
				}
				for j, q := range cover {
					if i != j && liesFrom(q, p) {
						t.Fatalf("%d and %d cover from %d, of %q", p, q, node, keys)
					}
				}
			}
			for _, who := range plainlyIn(keys) {
				by := 0
				for _, p := range cover {
					if liesFrom(ownOf[who], p) {
						by++
					}
				}
				if liesFrom(ownOf[who], node) && by != 1 || !liesFrom(ownOf[who], node) && by != 0 {
					t.Fatalf("%d is covered %d times by %v, from %d, of %q", who, by, cover, node, keys)
				}
			}
		}
	}
}

// Promise 23: wherever keys are missing, and in which order, by the words of the document alone.
func TestWhoIsCoveredWhereKeysAreMissing(t *testing.T) {
	for shape := range 1 << impl.TreNodes {
		keys := shapeKeys(shape)
		// All of the first place, and of the others those in turn: each is seen with each shape of what is under it many times.
		for _, node := range []int{0, 1 + shape%2, 3 + shape%4, 7 + shape%8} {
			if got, want := impl.TreCover(impl.TreTree{Keys: keys}, node), plainlyCover(keys, node); !slices.Equal(got, want) {
				t.Fatalf("%v, not %v, covers from %d, of %q", got, want, node, keys)
			}
		}
	}
	for _, keys := range someKeys() {
		for node := range impl.TreNodes {
			if got, want := impl.TreCover(impl.TreTree{Keys: keys}, node), plainlyCover(keys, node); !slices.Equal(got, want) {
				t.Fatalf("%v, not %v, covers from %d, of %q", got, want, node, keys)
			}
		}
	}
}

// Promise 23: some trees by hand.
func TestCoversByHand(t *testing.T) {
	for _, c := range []struct {
		what string
		with []int
		node int
		want []int
	}{
		{"no keys", nil, 0, nil},
		{"the first alone", []int{0}, 0, []int{0}},
		{"the first alone, from under it", []int{0}, 1, nil},
		{"the first, and others under it", []int{0, 1, 7, 14}, 0, []int{0}},
		{"the first, and others under it, from one", []int{0, 1, 7, 14}, 2, []int{14}},
		{"both under the first", []int{1, 2}, 0, []int{1, 2}},
		{"a low one left of a high one", []int{7, 4, 2}, 0, []int{7, 4, 2}},
		{"a high one left of a low one", []int{1, 12, 6}, 0, []int{1, 12, 6}},
		{"own places alone", []int{14, 12, 10, 8}, 0, []int{8, 10, 12, 14}},
		{"own places alone, from the left", []int{14, 12, 10, 8}, 1, []int{8, 10}},
		{"an own place", []int{9}, 9, []int{9}},
		{"an own place without a key", []int{9}, 10, nil},
		{"a key above own places without", []int{3}, 1, []int{3}},
		{"a key above own places without, from them", []int{3}, 7, nil},
		{"missing between", []int{0, 7}, 1, []int{7}},
	} {
		shape := 0
		for _, p := range c.with {
			shape |= 1 << p
		}
		if got := impl.TreCover(impl.TreTree{Keys: shapeKeys(shape)}, c.node); !slices.Equal(got, c.want) {
			t.Errorf("%s: %v, not %v", c.what, got, c.want)
		}
	}
}

// Promise 23: from what is no place nothing covers.
func TestNothingCoversFromNoPlace(t *testing.T) {
	for _, keys := range someKeys() {
		for _, node := range outOf(0, impl.TreNodes-1) {
			if cover := impl.TreCover(impl.TreTree{Keys: keys}, node); len(cover) != 0 {
				t.Fatalf("%v covers from %d", cover, node)
			}
		}
	}
}

// Promise 24.
func TestWhoSetsItsKeysSetsThoseAbove(t *testing.T) {
	secrets := []string{"A1;", "H99;", "nB2;", "kC3;", "eA1;B2;", "mAkA1;", "r9eA1;A1;", nameOfSize(impl.SecLong - 9), nameOfSize(impl.SecLong - 8)}
	for _, keys := range someKeys() {
		for who := range impl.SecMany {
			for _, s := range secrets {
				got := impl.TreSet(impl.TreTree{Keys: keys}, who, s)
				if want := plainlySet(keys, who, s); !slices.Equal(got.Keys, want) || !impl.TreOk(got) {
					t.Fatalf("%q, not %q, of %d and %q", got, want, who, s)
				}
				next := s
				for _, p := range append([]int{impl.TreLeaf(who)}, impl.TreUp(impl.TreLeaf(who))...) {
					if got.Keys[p] != impl.MakKey(next) || got.Keys[p] == "" {
						t.Fatalf("%q at %d, of %d and %q", got.Keys[p], p, who, s)
					}
					next = impl.MakNext(next)
				}
			}
			got := impl.TreClear(impl.TreTree{Keys: keys}, who)
			if want := plainlyClear(keys, who); !slices.Equal(got.Keys, want) || !impl.TreOk(got) {
				t.Fatalf("%q, not %q, without %d", got, want, who)
			}
		}
	}
}

// Promise 24: a secret of just SecLong - 8 bytes is set, one of one byte more is not.
func TestSecretsJustSoLongAreSet(t *testing.T) {
	trees := []impl.TreTree{impl.TreNew(), {Keys: shapeKeys(1<<15 - 1)}}
	for _, s := range append(someNames(), nameOfSize(impl.SecLong-9), nameOfSize(impl.SecLong-8), nameOfSize(impl.SecLong-7), nameOfSize(impl.SecLong-4), nameOfSize(impl.SecLong-3)) {
		for _, tree := range trees {
			for who := range impl.SecMany {
				got := impl.TreSet(tree, who, s)
				if len(s) > 292 && len(got.Keys) != 0 {
					t.Fatalf("a secret of %d bytes is set", len(s))
				}
				if len(s) <= 292 && !slices.Equal(got.Keys, plainlySet(tree.Keys, who, s)) {
					t.Fatalf("%q is not set: %q", s, got)
				}
			}
		}
	}
}

// Promise 24: nothing comes of who is nobody, and of what is no name.
func TestNobodySetsAndNobodyIsCleared(t *testing.T) {
	for _, keys := range someKeys() {
		tree := impl.TreTree{Keys: keys}
		for _, who := range outOf(0, impl.SecMany-1) {
			if len(impl.TreSet(tree, who, "A1;").Keys) != 0 || len(impl.TreClear(tree, who).Keys) != 0 {
				t.Fatalf("something comes of %d", who)
			}
		}
	}
	for _, keys := range [][]string{noKeys(), shapeKeys(1<<15 - 1), fullKeys([]int{3, 1, 2, 0, 7, 5, 6, 4})} {
		for _, no := range noNames() {
			for who := range impl.SecMany {
				if got := impl.TreSet(impl.TreTree{Keys: keys}, who, no); len(got.Keys) != 0 {
					t.Fatalf("%.40q is set: %q", no, got)
				}
			}
		}
	}
}

// Promise 25.
func TestWhoIsInIsWhoHasAKey(t *testing.T) {
	if tree := impl.TreNew(); !slices.Equal(tree.Keys, noKeys()) || !impl.TreOk(tree) || len(impl.TreIn(tree)) != 0 {
		t.Fatal(tree)
	}
	for shape := range 1 << impl.SecMany {
		// With all keys that are nobody's own, and without: they make no difference.
		for _, other := range []int{0, 1<<7 - 1, shape % 128} {
			keys := shapeKeys(shape<<7 | other)
			var want []int
			for who := range impl.SecMany {
				if shape>>who&1 == 1 {
					want = append(want, who)
				}
			}
			if got := impl.TreIn(impl.TreTree{Keys: keys}); !slices.Equal(got, want) {
				t.Fatalf("in are %v, not %v, of %q", got, want, keys)
			}
		}
	}
	for _, keys := range someKeys() {
		if got, want := impl.TreIn(impl.TreTree{Keys: keys}), plainlyIn(keys); !slices.Equal(got, want) {
			t.Fatalf("in are %v, not %v, of %q", got, want, keys)
		}
	}
}

// Promise 60.
func TestWhoSetsItsKeysLastHasThoseAboveBoth(t *testing.T) {
	for _, keys := range someKeys() {
		for one := range impl.SecMany {
			for other := range impl.SecMany {
				first := impl.TreSet(impl.TreTree{Keys: keys}, one, "C7;")
				both := impl.TreSet(first, other, "eA1;D2;")
				alone := impl.TreSet(impl.TreNew(), other, "eA1;D2;")
				for _, p := range plainlyUpward(ownOf[other]) {
					if both.Keys[p] != alone.Keys[p] || both.Keys[p] == "" {
						t.Fatalf("%q at %d, of %d and then %d", both.Keys[p], p, one, other)
					}
				}
				for _, p := range plainlyUpward(ownOf[one]) {
					if !liesFrom(ownOf[other], p) && (both.Keys[p] != first.Keys[p] || both.Keys[p] == "") {
						t.Fatalf("%q at %d, of %d and then %d", both.Keys[p], p, one, other)
					}
				}
				if want := plainlySet(plainlySet(keys, one, "C7;"), other, "eA1;D2;"); !slices.Equal(both.Keys, want) {
					t.Fatalf("%q, not %q, of %d and then %d", both, want, one, other)
				}
			}
		}
	}
}

// Promise 61.
func TestWhatWasSetCanBeCleared(t *testing.T) {
	for _, keys := range someKeys() {
		tree := impl.TreTree{Keys: keys}
		for one := range impl.SecMany {
			cleared := impl.TreClear(tree, one)
			if again := impl.TreClear(impl.TreSet(tree, one, "B2;"), one); !slices.Equal(again.Keys, cleared.Keys) {
				t.Fatalf("%q, not %q, behind what %d set", again, cleared, one)
			}
			if twice := impl.TreClear(cleared, one); !slices.Equal(twice.Keys, cleared.Keys) {
				t.Fatalf("%q, not %q, twice without %d", twice, cleared, one)
			}
			for other := range impl.SecMany {
				a, b := impl.TreClear(cleared, other), impl.TreClear(impl.TreClear(tree, other), one)
				if !slices.Equal(a.Keys, b.Keys) || !slices.Equal(a.Keys, plainlyClear(plainlyClear(keys, one), other)) {
					t.Fatalf("%q and %q, without %d and %d", a, b, one, other)
				}
			}
		}
	}
	tree := impl.TreNew()
	for who := range impl.SecMany {
		tree = impl.TreSet(tree, who, impl.MakNew(who, 1))
	}
	for who := range impl.SecMany {
		tree = impl.TreClear(tree, who)
	}
	if !slices.Equal(tree.Keys, noKeys()) {
		t.Fatalf("all are cleared, and there is %q", tree)
	}
}

// Promise 62.
func TestWhereAllHaveSetTheirKeysOneCoversAll(t *testing.T) {
	r := rand.New(rand.NewSource(32))
	for range 60 {
		tree, order := impl.TreNew(), r.Perm(impl.SecMany)
		for _, who := range order {
			tree = impl.TreSet(tree, who, impl.MakNew(who, 1+r.Intn(impl.SecMost)))
		}
		for node := range impl.TreNodes {
			if got := impl.TreCover(tree, node); !slices.Equal(got, []int{node}) {
				t.Fatalf("%v covers from %d, where %v have set their keys", got, node, order)
			}
		}
		if in := impl.TreIn(tree); !slices.Equal(in, []int{0, 1, 2, 3, 4, 5, 6, 7}) {
			t.Fatalf("in are %v", in)
		}
		for who := range impl.SecMany {
			var want []int
			for _, p := range plainlyUpward(ownOf[who])[:3] {
				want = append(want, besideOf[p])
			}
			slices.SortFunc(want, func(a, b int) int { return leftmost(a) - leftmost(b) })
			if got := impl.TreCover(impl.TreClear(tree, who), 0); !slices.Equal(got, want) {
				t.Fatalf("%v, not %v, covers all but %d", got, want, who)
			}
		}
	}
}

// Promise 84.
func TestATreeWithAKeyLessIsATree(t *testing.T) {
	for _, keys := range someKeys() {
		if !impl.TreOk(impl.TreTree{Keys: keys}) {
			t.Fatalf("%q is not ok", keys)
		}
		for at := range keys {
			if !impl.TreOk(impl.TreTree{Keys: with(keys, at, "")}) {
				t.Fatalf("%q is not ok without its %d", keys, at)
			}
			for _, key := range []string{"kA1;", "kkA1;", "kmAeA1;B1;", "k" + nameOfSize(impl.SecLong-1)} {
				if !impl.TreOk(impl.TreTree{Keys: with(keys, at, key)}) {
					t.Fatalf("%q is not ok with %q at %d", keys, key, at)
				}
			}
			for _, no := range []string{"x", "A1;", "nkA1;", "kA0;", "kA1;;", "k"} {
				if impl.TreOk(impl.TreTree{Keys: with(keys, at, no)}) {
					t.Fatalf("%q is ok with %q at %d", keys, no, at)
				}
			}
		}
	}
}

// Promise 84: of a tree that is not ok there is none, or nothing, whatever is asked.
func TestNothingComesOfAWrongTree(t *testing.T) {
	for _, tree := range wrongTrees() {
		if impl.TreOk(tree) {
			t.Fatalf("%.60q is ok", tree)
		}
		if in := impl.TreIn(tree); len(in) != 0 {
			t.Fatalf("%v are in, of %.60q", in, tree)
		}
		for node := -1; node <= impl.TreNodes; node++ {
			if cover := impl.TreCover(tree, node); len(cover) != 0 {
				t.Fatalf("%v covers from %d, of %.60q", cover, node, tree)
			}
		}
		for who := -1; who <= impl.SecMany; who++ {
			if len(impl.TreSet(tree, who, "A1;").Keys) != 0 || len(impl.TreClear(tree, who).Keys) != 0 {
				t.Fatalf("something comes of %d, and %.60q", who, tree)
			}
		}
	}
}

// No call changes a tree that is handed in, nor what lies behind its end; and no name in an answer lies in one that was handed in.
func TestATreeStaysAsItWas(t *testing.T) {
	wrong := [][]string{{"kA1;"}, append(fullKeys([]int{0, 1}), "kA1;"), with(noKeys(), 14, "x")}
	for _, list := range append(someKeys(), wrong...) {
		keys := apart(list)
		tree, was := impl.TreTree{Keys: keys}, slices.Clone(keys[:cap(keys)])
		given := map[*byte]int{}
		for i, key := range keys {
			if key != "" {
				given[unsafe.StringData(key)] = i
			}
		}
		impl.TreOk(tree)
		turn(impl.TreIn(tree), -5)
		for node := -1; node <= impl.TreNodes; node++ {
			turn(impl.TreCover(tree, node), -5)
		}
		for who := -1; who <= impl.SecMany; who++ {
			for _, answer := range []impl.TreTree{impl.TreSet(tree, who, "A1;"), impl.TreSet(tree, who, "x"), impl.TreClear(tree, who)} {
				for _, key := range answer.Keys {
					if i, ok := given[unsafe.StringData(key)]; ok && key != "" {
						t.Fatalf("%q shares its memory with what was given as %d", key, i)
					}
				}
				turn(answer.Keys, "turned")
			}
		}
		if !slices.Equal(keys[:cap(keys)], was) {
			t.Fatalf("%q, and was %q", keys[:cap(keys)], was)
		}
	}
}

// Each answer is new memory: whoever writes into one, spare room included, finds the next one as it should be.
func TestAnswersOfTheTreeAreNewMemory(t *testing.T) {
	tree := impl.TreTree{Keys: fullKeys([]int{0, 1, 2, 3, 4, 5, 6, 7})}
	for range 2 {
		fresh := impl.TreNew()
		if !slices.Equal(fresh.Keys, noKeys()) {
			t.Fatal(fresh)
		}
		turn(fresh.Keys, "turned")
		for node := range impl.TreNodes {
			up, cover := impl.TreUp(node), impl.TreCover(tree, node)
			if !slices.Equal(up, plainlyUpward(node)[1:]) || !slices.Equal(cover, []int{node}) {
				t.Fatal(node, up, cover)
			}
			turn(up, -5)
			turn(cover, -5)
		}
		in := impl.TreIn(tree)
		if !slices.Equal(in, []int{0, 1, 2, 3, 4, 5, 6, 7}) {
			t.Fatal(in)
		}
		turn(in, -5)
	}
}

// turn writes over all of a list, and its spare room.
func turn[T any](list []T, by T) {
	for i := range list[:cap(list)] {
		list[:cap(list)][i] = by
	}
}
