package tests

import (
	"math/rand"
	"slices"
	"strings"
	"testing"

	"loop.example/keyward/impl"
)

// grownTo is a group that the first of some begins, and lets the others in, one behind the other; all hear, and all come.
func grownTo(t *testing.T, all ...int) *past {
	t.Helper()
	p := begunBy(all[0])
	for _, who := range all[1:] {
		p.allHear(t, goesOn(all[0], who, -1))
	}
	return p
}

// allHear lets one go on, and all others who are in hear, and come.
func (p *past) allHear(t *testing.T, e impl.EvEvent) {
	t.Helper()
	at := len(p.w.Log)
	others := slices.DeleteFunc(whoIsIn(p.w), func(who int) bool { return who == e.Who })
	p.goes(t, e)
	for _, who := range others {
		p.goes(t, hearsAt(who, at))
	}
	if e.Add >= 0 {
		p.goes(t, joinsAt(e.Add, at))
	}
}

// tagNow is the commits behind which one is.
func (p *past) tagNow(who int) string {
	return p.w.Seats[who].Tag
}

// Promise 35: whoever goes on, lets in, or go, where all hear and come ahead of the next one all are behind the same commits, and are just those whom the tree says.
func TestOneBehindTheOtherAllGoOnTogether(t *testing.T) {
	r := rand.New(rand.NewSource(161))
	goes, comes := 0, 0
	for range 80 {
		w := impl.GrpNew(r.Intn(8))
		for range 20 {
			e := likelyEvent(r, w)
			if e.Kind != impl.EvCommit {
				continue
			}
			next := impl.GrpCalm(impl.GrpStep(w, e))
			if sameWorld(next, w) {
				continue
			}
			if e.Remove >= 0 {
				goes++
			}
			if e.Add >= 0 {
				comes++
			}
			w = next
			in := whoIsIn(w)
			first := w.Seats[in[0]]
			haveOne(t, "together", w, first.Tag, in...)
			if !slices.Equal(impl.TreIn(first.Tree), in) || len(w.Waits) != 0 || first.Epoch != len(w.Log) {
				t.Fatalf("%v are in, of %+v", in, w)
			}
		}
	}
	enough(t, 50, goes, comes)
}

// Promise 63.
func TestAllCanCome(t *testing.T) {
	r := rand.New(rand.NewSource(162))
	for begins := range impl.SecMany {
		order := append([]int{begins}, slices.DeleteFunc(r.Perm(8), func(who int) bool { return who == begins })...)
		p := grownTo(t, order...)
		if len(whoIsIn(p.w)) != impl.SecMany {
			t.Fatal(whoIsIn(p.w))
		}
		haveOne(t, "all", p.w, p.tagNow(begins), 0, 1, 2, 3, 4, 5, 6, 7)
		for who := range impl.SecMany {
			next := &past{w: p.w, groups: map[string]string{}}
			next.allHear(t, goesOn(who, -1, -1))
			haveOne(t, "whoever goes on", next.w, p.tagNow(begins)+next.w.Log[7].Name, 0, 1, 2, 3, 4, 5, 6, 7)
			if len(next.w.Log[7].Boxes) == 0 || len(impl.SpyKnows(next.w)) != 0 {
				t.Fatalf("%+v", next.w.Log[7])
			}
		}
	}
}

// Promise 64: from all that those who were let go ever had, and all that was sent, what the one has that let them go cannot be known; but by who is in still it can.
func TestAllButOneCanGo(t *testing.T) {
	r := rand.New(rand.NewSource(163))
	for many := 2; many <= 7; many++ {
		for range 8 {
			p := grownTo(t, r.Perm(8)[:many]...)
			in := whoIsIn(p.w)
			stays := in[r.Intn(many)]
			for _, i := range r.Perm(many) {
				if in[i] != stays {
					p.allHear(t, goesOn(stays, -1, in[i]))
				}
			}
			m := p.w.Seats[stays]
			if !slices.Equal(whoIsIn(p.w), []int{stays}) || !slices.Equal(impl.TreIn(m.Tree), []int{stays}) {
				t.Fatalf("%+v", p.w)
			}
			var had []string
			for who, secrets := range p.had {
				if who != stays {
					had = append(had, secrets...)
				}
			}
			boxes := impl.SpyBoxes(p.w)
			if len(had) > impl.KnwMost || impl.KnwHas(had, boxes, m.Init) {
				t.Fatalf("%s is known from %q", m.Init, had)
			}
			// What the group had ahead of the last one's going is known still.
			ahead := p.w.Log[len(p.w.Log)-1].Tag
			if !impl.KnwHas(had, boxes, p.groups[ahead]) || !impl.KnwHas(p.had[stays], boxes, m.Init) {
				t.Fatalf("behind %s", ahead)
			}
		}
	}
}

// Promise 65: till each has gone on what the group has is known, and then no more; and what two in a group of which one has not gone on have is known on.
func TestWhereEachHasGoneOnAllIsHealed(t *testing.T) {
	r := rand.New(rand.NewSource(164))
	for many := 1; many <= 6; many++ {
		for range 8 {
			p := grownTo(t, r.Perm(8)[:many]...)
			in := whoIsIn(p.w)
			for _, i := range r.Perm(many) {
				p.goes(t, isStolenOf(in[i]))
			}
			var known []string
			for _, i := range r.Perm(many) {
				known = append(known, p.tagNow(in[0]))
				knownAt(t, "till each has gone on", p, known, nil)
				p.allHear(t, goesOn(in[i], -1, -1))
			}
			healed := p.tagNow(in[0])
			knownAt(t, "each has gone on", p, known, []string{healed})
			p.allHear(t, goesOn(in[0], -1, -1))
			knownAt(t, "and on", p, known, []string{healed, p.tagNow(in[0])})
		}
	}
}

// Promise 66: whoever hears one of two that go on from the same commits does not hear the other one; and neither part can know what the other one has, though all that both sent is heard.
func TestWhoGoesOnApartStaysApart(t *testing.T) {
	r := rand.New(rand.NewSource(165))
	for range 60 {
		many := 2 + r.Intn(6)
		p := grownTo(t, r.Perm(8)[:many]...)
		in, at := whoIsIn(p.w), len(p.w.Log)
		pair := r.Perm(many)
		one, other := in[pair[0]], in[pair[1]]
		p.goes(t, goesOn(one, -1, -1), goesOn(other, -1, -1))
		parts := map[int][]int{one: {one}, other: {other}}
		for _, i := range pair[2:] {
			hears := []int{one, other}[r.Intn(2)]
			take, leave := at, at+1
			if hears == other {
				take, leave = at+1, at
			}
			p.goes(t, hearsAt(in[i], take))
			leavesAll(t, "the other one", p.w, hearsAt(in[i], leave), hearsAt(in[i], take))
			parts[hears] = append(parts[hears], in[i])
		}
		leavesAll(t, "both", p.w, hearsAt(one, at+1), hearsAt(other, at), hearsAt(one, at), hearsAt(other, at+1))
		if calm := impl.GrpCalm(p.w); !sameWorld(calm, p.w) {
			t.Fatalf("%+v, of %+v", calm, p.w)
		}
		a, b := p.w.Seats[one], p.w.Seats[other]
		if a.Init == b.Init || impl.KnwMake([]string{a.Init}, b.Init) || impl.KnwMake([]string{b.Init}, a.Init) {
			t.Fatalf("%s and %s", a.Init, b.Init)
		}
		for _, part := range [][]int{parts[one], parts[other]} {
			haveOne(t, "a part", p.w, p.tagNow(part[0]), part...)
		}
		for _, who := range parts[one] {
			if impl.KnwMake(impl.MemKnows(p.w.Seats[who]), b.Init) || impl.KnwHas(impl.MemKnows(p.w.Seats[who]), impl.SpyBoxes(p.w), b.Init) {
				t.Fatalf("%d knows what the other part has", who)
			}
		}
	}
}

// Promise 73: from one state two ways lead apart.
func TestFromOneStateTwoWaysLeadApart(t *testing.T) {
	r := rand.New(rand.NewSource(166))
	for range 60 {
		many := 1 + r.Intn(8)
		p := grownTo(t, r.Perm(8)[:many]...)
		in := whoIsIn(p.w)
		who := in[r.Intn(many)]
		m := p.w.Seats[who]
		one, c, ok := impl.MemCommit(m, impl.MakNew(who, 50), -1, -1, "", "")
		other, d, may := impl.MemCommit(m, impl.MakNew(who, 51), -1, -1, "", "")
		if !ok || !may || one.Init == other.Init || impl.KnwMake([]string{one.Init}, other.Init) || impl.KnwMake(impl.MemKnows(one), other.Init) {
			t.Fatalf("%+v and %+v", one, other)
		}
		for _, who := range in {
			if who == m.Who {
				continue
			}
			hearer := p.w.Seats[who]
			first, second := hears(t, "the one", hearer, c), hears(t, "the other", hearer, d)
			if first.Init != one.Init || second.Init != other.Init {
				t.Fatalf("%+v and %+v", first, second)
			}
			stays(t, "the other behind the one", first, d)
			stays(t, "the one behind the other", second, c)
		}
		for _, m := range []impl.MemMember{one, other} {
			stays(t, "who sent both", m, c)
			stays(t, "who sent both", m, d)
		}
	}
}

// Promise 82: of a group of three one lets another one go, and another one in, to the same place, at once.
func TestOneCanComeInAnotherOnesPlace(t *testing.T) {
	r := rand.New(rand.NewSource(167))
	for range 60 {
		p := grownTo(t, r.Perm(8)[:3]...)
		order := r.Perm(3)
		in := whoIsIn(p.w)
		sends, goes, third := in[order[0]], in[order[1]], in[order[2]]
		had, at := slices.Clone(p.had[goes]), len(p.w.Log)
		old := p.w.Seats[goes]
		p.goes(t, goesOn(sends, goes, goes))
		new := p.w.Waits[0]
		// The new one has not the old one's seat here, but comes by itself.
		came := comes(t, "the new one", goes, new.Leaf, new.Key, p.w.Log[at])
		p.goes(t, hearsAt(third, at))
		m := p.w.Seats[sends]
		if came.Init != m.Init || came.Tag != m.Tag || p.w.Seats[third].Init != m.Init || !slices.Equal(came.Tree.Keys, m.Tree.Keys) {
			t.Fatalf("%+v and %+v", came, m)
		}
		boxes := impl.SpyBoxes(p.w)
		for _, s := range []string{m.Init, secretOf(came, ownOf[goes]), secretOf(came, 0), secretOf(m, ownOf[sends])} {
			if impl.KnwHas(had, boxes, s) || impl.KnwHas(impl.MemKnows(old), boxes, s) {
				t.Fatalf("%s is known from %q", s, had)
			}
		}
		if !impl.KnwHas([]string{new.Leaf, new.Key}, boxes, m.Init) || !impl.KnwHas(impl.MemKnows(came), boxes, m.Init) {
			t.Fatalf("%+v", came)
		}
		out := hears(t, "the old one", old, p.w.Log[at])
		if out.In {
			t.Fatalf("%+v", out)
		}
		p.goes(t, hearsAt(goes, at), joinsAt(goes, at))
		haveOne(t, "three", p.w, m.Tag, in...)
		if !sameMember(p.w.Seats[goes], came) {
			t.Fatalf("%+v, not %+v", p.w.Seats[goes], came)
		}
	}
}

// Promise 92.
func TestWhatComesTooEarlyIsNotHeardYet(t *testing.T) {
	r := rand.New(rand.NewSource(168))
	for range 40 {
		p := grownTo(t, r.Perm(8)[:3]...)
		in := whoIsIn(p.w)
		twice := in[r.Intn(3)]
		p.goes(t, goesOn(twice, -1, -1), goesOn(twice, -1, -1))
		for _, who := range in {
			if who == twice {
				continue
			}
			leavesAll(t, "too early", p.w, hearsAt(who, 3))
			p.goes(t, hearsAt(who, 2))
			leavesAll(t, "heard", p.w, hearsAt(who, 2))
			p.goes(t, hearsAt(who, 3))
			leavesAll(t, "both heard", p.w, hearsAt(who, 2), hearsAt(who, 3))
		}
		haveOne(t, "all", p.w, p.tagNow(twice), in...)
	}
}

// Promise 93: who is alone sends no boxes, and from nothing that others have, or make, what it has can be known.
func TestWhoIsAloneNeedsNobody(t *testing.T) {
	for who := range impl.SecMany {
		var others []string
		for other := range impl.SecMany {
			for n := 1; n <= 20; n++ {
				if other != who {
					others = append(others, impl.MakNew(other, n))
				}
			}
		}
		p := begunBy(who)
		for range impl.MemEpochs {
			p.goes(t, goesOn(who, -1, -1))
			m := p.w.Seats[who]
			if boxes := impl.SpyBoxes(p.w); len(boxes) != 0 || impl.KnwHas(others, boxes, m.Init) || impl.SpyHas(p.w, m.Init) {
				t.Fatalf("%+v", boxes)
			}
			if !impl.KnwMake(impl.MemKnows(m), m.Init) || len(p.w.Log[len(p.w.Log)-1].Boxes) != 0 {
				t.Fatalf("%+v", m)
			}
		}
		knownAt(t, "alone", p, nil, impl.TagNames(p.tagNow(who))[:1])
	}
}

// Promise 94.
func TestAGroupComesToItsEnd(t *testing.T) {
	r := rand.New(rand.NewSource(169))
	for many := 1; many <= impl.SecMany; many++ {
		p := grownTo(t, r.Perm(8)[:many]...)
		in := whoIsIn(p.w)
		for len(p.w.Log) < impl.MemEpochs {
			p.allHear(t, goesOn(in[r.Intn(many)], -1, -1))
		}
		for _, who := range in {
			if p.w.Seats[who].Epoch != impl.MemEpochs {
				t.Fatalf("%+v", p.w.Seats[who])
			}
			leavesAll(t, "behind the last epoch", p.w, goesOn(who, -1, -1), goesOn(who, (who+1)%8, -1), goesOn(who, -1, (who+1)%8))
		}
		p.goes(t, saysText(in[0], "end"), isStolenOf(in[0]))
		if !impl.SpyMay(p.w, p.tagNow(in[0])) || !impl.SpyHas(p.w, p.w.Seats[in[many-1]].Init) || len(impl.SpyHears(p.w)) != 1 {
			t.Fatalf("%+v", p.w)
		}
	}
	// LogMost commits there are of two who go on apart, and no more, though both are ahead of the last epoch.
	p := grownTo(t, 2, 6)
	for len(p.w.Log) < impl.LogMost {
		p.goes(t, goesOn([]int{2, 6}[len(p.w.Log)%2], -1, -1))
	}
	leavesAll(t, "no more commits", p.w, goesOn(2, -1, -1), goesOn(6, -1, -1), goesOn(2, 0, -1), goesOn(6, -1, 2))
	if p.w.Seats[2].Epoch >= impl.MemEpochs || p.w.Seats[6].Epoch >= impl.MemEpochs {
		t.Fatalf("%+v", p.w.Seats)
	}
	p.goes(t, isStolenOf(2))
	for tag, init := range p.groups {
		if has := impl.SpyHas(p.w, init); has != (tag == p.tagNow(2)) || has != impl.SpyMay(p.w, tag) {
			t.Fatalf("%v, behind %s", has, tag)
		}
	}
}

// The document's example: what was stolen opens the first three frames, and no more.
func TestTheExampleOfWhoListens(t *testing.T) {
	p := begunBy(0)
	p.goes(t, goesOn(0, 1, -1), joinsAt(1, 0), goesOn(0, 2, -1), hearsAt(1, 1), joinsAt(2, 1), saysText(0, "hi"), getsAt(1, 0), getsAt(2, 0), isStolenOf(1), saysText(2, "ok"),
		goesOn(2, -1, -1), hearsAt(0, 2), hearsAt(1, 2), saysText(0, "a"), goesOn(1, -1, -1), hearsAt(0, 3), hearsAt(2, 3), saysText(2, "b"),
		goesOn(0, -1, 1), hearsAt(2, 4), hearsAt(1, 4), saysText(2, "c"), getsAt(0, 4))
	if got := impl.SpyHears(p.w); !slices.Equal(got, []int{0, 1, 2}) {
		t.Fatal(got)
	}
	tag := "A3;A4;C3;B3;A5;"
	if got := strings.Join(impl.TagNames(p.tagNow(0)), " "); got != "A3; A4; C3; B3; A5;" {
		t.Fatal(got)
	}
	knownAt(t, "the example", p, []string{"A3;A4;", "A3;A4;C3;"}, []string{"", "A3;", "A3;A4;C3;B3;", tag})
	if !impl.SpyHealed(p.w, 1, "A3;A4;", "A3;A4;C3;B3;") || impl.SpyHealed(p.w, 1, "A3;A4;", "A3;A4;C3;") || impl.SpyHealed(p.w, 1, "A3;A4;C3;B3;", "A3;A4;C3;B3;") || !impl.SpyHealed(p.w, 1, "A3;A4;C3;B3;", tag) {
		t.Fatalf("%+v", p.w.Stolen)
	}
}
