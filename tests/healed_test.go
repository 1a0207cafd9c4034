package tests

import (
	"math/rand"
	"slices"
	"strings"
	"testing"

	"loop.example/keyward/impl"
)

// knownAt is commits behind which what the group has can be known, and commits behind which it cannot, each by its Tag; SpyMay says the same.
func knownAt(t *testing.T, what string, p *past, known []string, not []string) {
	t.Helper()
	for _, tag := range append(slices.Clone(known), not...) {
		want := slices.Contains(known, tag)
		init, ok := p.groups[tag]
		if !ok {
			t.Fatalf("%s: no group was behind %s", what, tag)
		}
		if impl.SpyHas(p.w, init) != want || impl.SpyMay(p.w, tag) != want || plainlyMayKnow(p.w, tag) != want {
			t.Fatalf("%s: known is %v, and may be %v, behind %s", what, impl.SpyHas(p.w, init), impl.SpyMay(p.w, tag), tag)
		}
	}
}

// grownPast is three of a group, behind A3; and A4;, and what happens then.
func grownPast(t *testing.T, events ...impl.EvEvent) *past {
	t.Helper()
	p := begunBy(0)
	p.goes(t, goesOn(0, 1, -1), joinsAt(1, 0), goesOn(0, 2, -1), hearsAt(1, 1), joinsAt(2, 1))
	p.goes(t, events...)
	return p
}

// goes lets things happen, each of which can.
func (p *past) goes(t *testing.T, events ...impl.EvEvent) {
	t.Helper()
	for _, e := range events {
		if was := p.happens(e); sameWorld(p.w, was) {
			t.Fatalf("nothing turned by %+v, of %+v", e, p.w)
		}
	}
}

// Promises 8, 50 and 51: by hand; what is stolen of B tells what the group has till B goes on itself, or is let go.
func TestWhatIsHealedByHand(t *testing.T) {
	const at = "A3;A4;"
	p := grownPast(t)
	knownAt(t, "nothing is stolen", p, nil, []string{"", "A3;", at})
	p = grownPast(t, isStolenOf(1))
	knownAt(t, "just from there on", p, []string{at}, []string{"", "A3;"})

	other := grownPast(t, isStolenOf(1), goesOn(0, -1, -1), hearsAt(1, 2), hearsAt(2, 2), goesOn(2, 3, -1), hearsAt(0, 3), goesOn(0, -1, 3))
	knownAt(t, "B only hears, and not all, and others go on, come and go", other, []string{at, at + "A5;", at + "A5;C3;", at + "A5;C3;A6;"}, []string{"A3;"})

	own := grownPast(t, isStolenOf(1), goesOn(0, -1, -1), hearsAt(1, 2), goesOn(1, -1, -1), hearsAt(0, 3), goesOn(0, -1, -1), goesOn(0, 4, -1))
	knownAt(t, "B goes on itself", own, []string{at, at + "A5;"}, []string{at + "A5;B3;", at + "A5;B3;A6;", at + "A5;B3;A6;A7;"})

	let := grownPast(t, isStolenOf(1), goesOn(0, -1, 1), hearsAt(2, 2), goesOn(2, -1, -1))
	knownAt(t, "B is let go, and has not heard that", let, []string{at}, []string{at + "A5;", at + "A5;C3;"})
	let.goes(t, isStolenOf(1), hearsAt(1, 2), hearsAt(0, 3), goesOn(0, 1, -1), joinsAt(1, 4))
	knownAt(t, "and comes again", let, []string{at}, []string{at + "A5;", at + "A5;C3;", at + "A5;C3;A6;"})
	let.goes(t, isStolenOf(1), goesOn(0, -1, -1))
	knownAt(t, "and is stolen from again", let, []string{at, at + "A5;C3;A6;", at + "A5;C3;A6;A7;"}, []string{at + "A5;", at + "A5;C3;"})

	anew := grownPast(t, isStolenOf(1), goesOn(2, 1, 1), hearsAt(1, 2), joinsAt(1, 2), hearsAt(0, 2), goesOn(0, -1, -1))
	knownAt(t, "B comes in its own place at once", anew, []string{at}, []string{at + "C3;", at + "C3;A5;"})

	apart := grownPast(t, isStolenOf(1), goesOn(1, -1, -1), goesOn(0, -1, -1), hearsAt(2, 3), goesOn(2, -1, -1), hearsAt(0, 4), goesOn(0, -1, 1), goesOn(1, -1, 0))
	knownAt(t, "B goes on apart", apart, []string{at, at + "A5;", at + "A5;C3;"}, []string{at + "B3;", at + "B3;B4;", at + "A5;C3;A6;"})

	twice := grownPast(t, isStolenOf(1), goesOn(1, -1, -1), isStolenOf(1), goesOn(1, -1, -1), hearsAt(0, 2), goesOn(0, -1, -1))
	knownAt(t, "B goes on twice, and is stolen from behind the first", twice, []string{at, at + "B3;", at + "B3;A5;"}, []string{at + "B3;B4;"})

	two := grownPast(t, isStolenOf(1), isStolenOf(2), goesOn(1, -1, -1), hearsAt(2, 2), hearsAt(0, 2))
	knownAt(t, "of two just one goes on", two, []string{at, at + "B3;"}, []string{"A3;"})
	two.goes(t, goesOn(0, -1, 2), hearsAt(1, 3))
	knownAt(t, "and the other one is let go", two, []string{at, at + "B3;"}, []string{at + "B3;A5;"})
}

// Promises 8 and 50: SpyHealed of all of these, by hand: who it is, from where, and to where.
func TestWhoIsHealedByHand(t *testing.T) {
	// A lets B in, and C; B goes on; C lets B go; A, apart, lets C go.
	p := grownPast(t, goesOn(1, -1, -1), hearsAt(2, 2), goesOn(2, -1, 1), hearsAt(0, 2), goesOn(0, -1, 2))
	all := "A3;A4;B3;C3;"
	apart := "A3;A4;B3;A5;"
	for _, c := range []struct {
		what      string
		who       int
		from, tag string
		want      bool
	}{
		{"A sent the first", 0, "", "A3;", true}, {"and the others", 0, "A3;", "A3;A4;", true}, {"A, among others", 0, "A3;", all, true}, {"A sent none of these", 0, "A3;A4;", all, false},
		{"B sent one", 1, "A3;A4;", "A3;A4;B3;", true}, {"behind it nothing heals B", 1, "A3;A4;B3;", "A3;A4;B3;", false}, {"but that it is let go", 1, "A3;A4;B3;", all, true},
		{"others go on", 1, "", "A3;A4;", false}, {"B came", 1, "", "A3;", false}, {"C sent one", 2, "A3;A4;B3;", all, true}, {"C sent none of these", 2, "", "A3;A4;B3;", false}, {"C is let go apart", 2, "A3;A4;B3;", apart, true},
		{"B is not let go apart", 1, "A3;A4;B3;", apart, false}, {"apart A sent one", 0, "A3;A4;B3;", apart, true}, {"D is in none of these", 3, "", all, false}, {"H neither", 7, "", apart, false},
		{"from themselves", 0, "A3;", "A3;", false}, {"from nothing to nothing", 0, "", "", false}, {"from all to all", 2, all, all, false},
		{"back", 0, "A3;A4;", "A3;", false}, {"from others", 1, apart, all, false}, {"from others", 2, all, apart, false}, {"from none of these", 0, "H1;", "H1;A3;", true}, {"to what does not begin so", 0, "H1;", "A3;A4;", false},
		{"no sign at the end", 1, "A3;A4;", "A3;A4;B3", false}, {"a part behind it", 1, "A3;A4;", "A3;A4;B3;C", true}, {"two signs", 1, "A3;A4;", "A3;A4;;B3;", true}, {"two signs behind it", 1, "A3;A4;", "A3;A4;B3;;", true}, {"just a sign", 1, "A3;A4;", "A3;A4;;", false},
		{"from the middle of a name", 1, "A3;A4;B", "A3;A4;B3;", false}, {"from the end of a name", 1, "A3;A4", "A3;A4;B3;", true}, {"and no more of it", 1, "A3;A4;B3", "A3;A4;B3;", false}, {"from the middle, and more", 2, "A3;A4;B", all, true}, {"from the first letter", 0, "A", "AA3;", true},
		{"of no commit", 0, "", "A9;A10;", false}, {"no commit, and one", 0, "", "A9;A3;", true}, {"another byte", 0, "", "a3;", false}, {"any bytes", 0, "", "\xff\x00;", false}, {"any bytes, and one", 0, "\xff", "\xff\xff;A3;", true}, {"a name in a longer one", 1, "", "xB3;", false}, {"of a Tag that is none", 2, "", "C3;", true},
	} {
		if got := impl.SpyHealed(p.w, c.who, c.from, c.tag); got != c.want || plainlyHealed(p.w.Log, c.who, c.from, c.tag) != c.want {
			t.Errorf("%s: %v", c.what, got)
		}
	}
	// Nobody is healed, though commits let nobody go.
	for _, who := range outOf(0, impl.SecMany-1) {
		for _, tag := range []string{"", "A3;", all, apart} {
			if impl.SpyHealed(p.w, who, "", tag) {
				t.Errorf("%d is healed by %s", who, tag)
			}
		}
	}
}

// The edges: of two commits that bear one name the first one counts, in a world that was written.
func TestTheFirstOfAName(t *testing.T) {
	w := grownPast(t, goesOn(1, -1, -1), hearsAt(2, 2), goesOn(2, -1, 1)).w
	w.Stolen = []impl.GrpSteal{{Who: 1, Tag: "A3;A4;"}}
	for _, c := range []struct {
		what   string
		by     func(w *impl.GrpWorld)
		healed []int
	}{
		{"each its own", func(*impl.GrpWorld) {}, []int{1}},
		{"another one of that name behind it", func(w *impl.GrpWorld) { w.Log[3].Name = "B3;" }, []int{1}},
		{"another one of that name ahead of it", func(w *impl.GrpWorld) { w.Log[1].Name = "B3;" }, []int{0}},
		{"one that lets another one go ahead of it", func(w *impl.GrpWorld) { w.Log[1].Name, w.Log[1].Remove = "B3;", 5 }, []int{0, 5}},
		{"both of one name changed", func(w *impl.GrpWorld) {
			w.Log[3].Name = "B3;"
			w.Log[2], w.Log[3] = w.Log[3], w.Log[2]
		}, []int{1, 2}},
		{"it has another name", func(w *impl.GrpWorld) { w.Log[2].Name = "B33;" }, nil},
		{"another one sent it", func(w *impl.GrpWorld) { w.Log[2].Sender = 4 }, []int{4}},
		{"three of that name", func(w *impl.GrpWorld) { w.Log[0].Name, w.Log[1].Name = "B3;", "B3;" }, []int{0}},
		{"there is none", func(w *impl.GrpWorld) { w.Log = w.Log[:2] }, nil},
	} {
		other := turnedWorld(w, c.by)
		if !impl.GrpOk(other) {
			t.Fatalf("%s: %+v is not ok", c.what, other)
		}
		for who := range impl.SecMany {
			if got := impl.SpyHealed(other, who, "A3;A4;", "A3;A4;B3;"); got != slices.Contains(c.healed, who) {
				t.Errorf("%s: %d is healed: %v", c.what, who, got)
			}
		}
		if got := impl.SpyMay(other, "A3;A4;B3;"); got == slices.Contains(c.healed, 1) {
			t.Errorf("%s: %v", c.what, got)
		}
	}
}

// Promises 50 and 51: of all that may be asked, by the words of the document alone.
func TestWhoIsHealedAndWhatMayBeKnown(t *testing.T) {
	r := rand.New(rand.NewSource(121))
	healed, not, may, mayNot := 0, 0, 0, 0
	for _, w := range someWorlds(122, 40, 60) {
		w = turnedWorld(w, func(w *impl.GrpWorld) {
			for at := range w.Log {
				if r.Intn(8) == 0 {
					w.Log[at].Name = w.Log[r.Intn(len(w.Log))].Name
				}
			}
			for at := range w.Stolen {
				if r.Intn(4) == 0 {
					w.Stolen[at] = impl.GrpSteal{Who: r.Intn(8), Tag: []string{"", "A", "A3;", "\xff", strings.Repeat("A3;", 100)}[r.Intn(5)]}
				}
			}
		})
		if !impl.GrpOk(w) {
			t.Fatalf("%+v is not ok", w)
		}
		tags := tagsOf(r, w)
		for _, tag := range tags {
			got := impl.SpyMay(w, tag)
			if got != plainlyMayKnow(w, tag) {
				t.Fatalf("%v, of %q, %+v and %+v", got, tag, w.Stolen, w.Log)
			}
			if got {
				may++
			} else {
				mayNot++
			}
			for range 6 {
				from, who := tags[r.Intn(len(tags))], r.Intn(10)-1
				if r.Intn(2) == 0 {
					from = tag[:r.Intn(len(tag)+1)]
				}
				got := impl.SpyHealed(w, who, from, tag)
				if got != plainlyHealed(w.Log, who, from, tag) {
					t.Fatalf("%v, of %d, %q, %q and %+v", got, who, from, tag, w.Log)
				}
				if got {
					healed++
				} else {
					not++
				}
			}
		}
	}
	if healed < 500 || not < 1000 || may < 500 || mayNot < 500 {
		t.Fatal(healed, not, may, mayNot)
	}
}

// Promise 50: what is healed stays healed, and nobody is healed from commits to themselves.
func TestWhatIsHealedStaysHealed(t *testing.T) {
	r := rand.New(rand.NewSource(123))
	healed := 0
	for _, p := range walked(124, 40, 60, ofAny) {
		tags := tagsOf(r, p.w)
		for _, from := range tags {
			if who := r.Intn(8); impl.SpyHealed(p.w, who, from, from) {
				t.Fatalf("%d, from %q to itself", who, from)
			}
		}
		for range 100 {
			to, who := tags[r.Intn(len(tags))], r.Intn(8)
			from := to[:r.Intn(len(to)+1)]
			if !impl.SpyHealed(p.w, who, from, to) {
				continue
			}
			healed++
			if !impl.TagHas(to, from) {
				t.Fatalf("%q does not begin with %q", to, from)
			}
			for _, tag := range append(tags, to+"H99;", to+"x", to+";") {
				if impl.TagHas(tag, to) && !impl.SpyHealed(p.w, who, from, tag) {
					t.Fatalf("%d, from %q to %q, and not to %q", who, from, to, tag)
				}
			}
		}
	}
	if healed < 300 {
		t.Fatal(healed)
	}
}

// Promise 51.
func TestWhatWasStolenLetsOneKnowOn(t *testing.T) {
	r := rand.New(rand.NewSource(125))
	for _, p := range walked(126, 30, 60, ofNobody) {
		for _, tag := range tagsOf(r, p.w) {
			if impl.SpyMay(p.w, tag) {
				t.Fatalf("%q, and nothing was stolen", tag)
			}
		}
	}
	thefts := 0
	for _, p := range walked(127, 40, 60, ofAny) {
		for _, x := range p.w.Stolen {
			thefts++
			if !impl.SpyMay(p.w, x.Tag) {
				t.Fatalf("%q, of %+v", x.Tag, p.w.Stolen)
			}
		}
		for _, tag := range tagsOf(r, p.w) {
			if impl.SpyMay(p.w, tag) && !stolenOnTheWay(p.w, tag) {
				t.Fatalf("%q, of %+v", tag, p.w.Stolen)
			}
		}
	}
	if thefts < 60 {
		t.Fatal(thefts)
	}
	// The edges: no theft, and StoMost.
	w := impl.GrpNew(4)
	for many := range impl.StoMost + 1 {
		if impl.SpyMay(w, "") != (many > 0) || impl.SpyMay(w, "x") != (many > 0) {
			t.Fatal(many)
		}
		w = impl.GrpStep(w, isStolenOf(4))
	}
	w = stepsAll(t, "goes on", w, goesOn(4, -1, -1))
	if impl.SpyMay(w, "E3;") || !impl.SpyMay(w, "E4;") || !impl.SpyMay(w, "E3") {
		t.Fatalf("%+v", w.Stolen)
	}
	for at := range w.Stolen {
		other := turnedWorld(w, func(w *impl.GrpWorld) { w.Stolen[at].Who = 5 })
		if !impl.SpyMay(other, "E3;") {
			t.Fatalf("theft %d", at)
		}
	}
}

// Promise 8: where of one alone something is stolen, however often.
func TestWhoGoesOnWithNewKeysIsHealed(t *testing.T) {
	may, not, again := 0, 0, 0
	for _, p := range walked(128, 300, 60, ofOneAlone) {
		for tag, init := range p.groups {
			has := impl.SpyHas(p.w, init)
			if impl.SpyMay(p.w, tag) {
				may++
				if !has {
					t.Fatalf("%s is not known behind %q, of %+v", init, tag, p.w.Stolen)
				}
				continue
			}
			not++
			if !has {
				continue
			}
			again++
			if !stolenAgain(p.w, tag) {
				t.Fatalf("%s is known behind %q, of %+v", init, tag, p.w.Stolen)
			}
		}
	}
	// What is stolen again is told of by a test of its own; here it must be rare.
	if may < 300 || not < 300 || again*20 > not {
		t.Fatal(may, not, again)
	}
}

// stolenAgain is whether of whom something was stolen, and who was healed since on the way to commits, something was stolen once more, behind what healed it, on another way.
func stolenAgain(w impl.GrpWorld, tag string) bool {
	for _, x := range w.Stolen {
		for _, y := range w.Stolen {
			if plainlyBegins(tag, x.Tag) && !plainlyBegins(tag, y.Tag) && plainlyHealed(w.Log, x.Who, x.Tag, inCommon(tag, y.Tag)) {
				return true
			}
		}
	}
	return false
}

// Who goes on keeps the secret from which it made its keys till it goes on again: stolen then, with what the group had ahead of its commit stolen, too, it tells what the group had behind that commit, though SpyMay does not.
func TestWhatIsStolenAgainTellsOfWhatWasHealed(t *testing.T) {
	const at = "A3;A4;"
	p := grownPast(t, isStolenOf(1), goesOn(1, -1, -1), hearsAt(0, 2), goesOn(0, -1, -1), hearsAt(1, 3))
	knownAt(t, "healed", p, []string{at}, []string{at + "B3;", at + "B3;A5;"})
	p.goes(t, isStolenOf(1))
	knownAt(t, "stolen again", p, []string{at, at + "B3;A5;"}, nil)
	if !impl.SpyHas(p.w, p.groups[at+"B3;"]) || impl.SpyMay(p.w, at+"B3;") || !stolenAgain(p.w, at+"B3;") {
		t.Fatal("between both")
	}
	// Without the first theft it does not.
	p.w.Stolen, p.w.Spy = p.w.Stolen[1:], p.w.Spy[5:]
	knownAt(t, "stolen once", p, []string{at + "B3;A5;"}, []string{at, at + "B3;"})
	// So it is of who is let go, and in at once, by one beside: what it is told then it keeps till one beside goes on again.
	p = grownPast(t, isStolenOf(1), goesOn(0, 1, 1), hearsAt(1, 2), joinsAt(1, 2), hearsAt(2, 2), goesOn(2, -1, -1), hearsAt(1, 3), isStolenOf(1))
	knownAt(t, "let in at once", p, []string{at, at + "A5;C3;"}, nil)
	if !impl.SpyHas(p.w, p.groups[at+"A5;"]) || impl.SpyMay(p.w, at+"A5;") || !stolenAgain(p.w, at+"A5;") {
		t.Fatal("between both")
	}
}
