package tests

import (
	"math/rand"
	"slices"
	"strings"
	"testing"

	"loop.example/keyward/impl"
)

// secretOf is the secret that one has of a place; empty, if it has none.
func secretOf(m impl.MemMember, place int) string {
	for _, own := range m.Own {
		if own.Node == place {
			return own.Secret
		}
	}
	return ""
}

// eachIn is all seats that are in.
func eachIn(w impl.GrpWorld) []impl.MemMember {
	var in []impl.MemMember
	for _, who := range whoIsIn(w) {
		in = append(in, w.Seats[who])
	}
	return in
}

// turnedBy is whether a step let something of a kind happen.
func turnedBy(was impl.GrpWorld, e impl.EvEvent, p *past, kind int) bool {
	return e.Kind == kind && !sameWorld(was, p.w)
}

// enough fails if a test saw something too seldom to say anything.
func enough(t *testing.T, least int, counts ...int) {
	t.Helper()
	for _, n := range counts {
		if n < least {
			t.Fatalf("%v, and each must be %d at least", counts, least)
		}
	}
}

// Promise 5.
func TestWhoIsBehindTheSameCommitsHasTheSame(t *testing.T) {
	same, apart := 0, 0
	walks(131, 150, 60, ofAny, func(_ impl.GrpWorld, _ impl.EvEvent, p *past) {
		for _, m := range eachIn(p.w) {
			if m.Init != p.groups[m.Tag] {
				t.Fatalf("%+v has not %s", m, p.groups[m.Tag])
			}
			for _, other := range eachIn(p.w) {
				if other.Tag != m.Tag {
					apart++
					continue
				}
				same++
				if other.Init != m.Init || other.Epoch != m.Epoch || !slices.Equal(other.Tree.Keys, m.Tree.Keys) {
					t.Fatalf("%+v and %+v", m, other)
				}
			}
		}
	})
	enough(t, 5000, same, apart)
}

// Promises 6, 39 and 42.
func TestInACalmAllComeToTheEnd(t *testing.T) {
	went, came := 0, 0
	for _, p := range walked(132, 150, 50, ofAny) {
		calm := isCalm(t, p.w)
		if !impl.GrpOk(calm) {
			t.Fatalf("%+v", calm)
		}
		for who, m := range calm.Seats {
			was := p.w.Seats[who]
			if !m.In {
				continue
			}
			waited := slices.ContainsFunc(p.w.Waits, func(x impl.GrpWait) bool { return x.Who == who })
			if !was.In && !waited {
				t.Fatalf("%d came from nowhere", who)
			}
			if was.In && !waited && !impl.TagHas(m.Tag, was.Tag) {
				t.Fatalf("%d was behind %s, and is behind %s", who, was.Tag, m.Tag)
			}
			if was.In && m.Tag != was.Tag {
				went++
			}
			if !was.In {
				came++
			}
			for _, c := range calm.Log {
				if got, ok := impl.MemHear(m, c); ok {
					t.Fatalf("%+v hears %+v", got, c)
				}
			}
		}
		if !slices.EqualFunc(calm.Log, p.w.Log, sameCommit) || !slices.Equal(calm.Frames, p.w.Frames) || !slices.Equal(calm.Stolen, p.w.Stolen) || !slices.Equal(calm.Spy, p.w.Spy) {
			t.Fatalf("%+v, of %+v", calm, p.w)
		}
		for _, x := range calm.Waits {
			if !slices.Contains(p.w.Waits, x) {
				t.Fatalf("%+v waits", x)
			}
		}
		if !slices.Equal(impl.SpyKnows(calm), impl.SpyKnows(p.w)) {
			t.Fatalf("%q, not %q", impl.SpyKnows(calm), impl.SpyKnows(p.w))
		}
	}
	enough(t, 20, went, came)
}

// Promise 7.
func TestWhoKnowsWhatAGroupHasStoleItThere(t *testing.T) {
	known, not := 0, 0
	for _, p := range walked(133, 160, 60, ofAny) {
		for tag, init := range p.groups {
			if impl.SpyHas(p.w, init) {
				known++
				if !stolenOnTheWay(p.w, tag) {
					t.Fatalf("%s is known, of %+v", tag, p.w.Stolen)
				}
			} else if len(p.w.Stolen) > 0 {
				not++
			}
		}
	}
	for _, p := range walked(134, 60, 60, ofNobody) {
		if len(impl.SpyKnows(p.w)) != 0 || len(impl.SpyHears(p.w)) != 0 {
			t.Fatalf("%q, and nothing was stolen", impl.SpyKnows(p.w))
		}
		for _, had := range p.had {
			for _, s := range had {
				if impl.SpyHas(p.w, s) {
					t.Fatalf("%s is known, and nothing was stolen", s)
				}
			}
		}
	}
	enough(t, 300, known, not)
}

// Promise 9: from all that one ever had, the two secrets by which it may come again too, what the group has cannot be known behind what lets it go, up to where it is let in again.
func TestWhoIsLetGoKnowsNoMore(t *testing.T) {
	went, again := 0, 0
	for _, p := range walked(135, 200, 70, ofAny) {
		for _, c := range p.w.Log {
			if c.Remove < 0 {
				continue
			}
			had := p.had[c.Remove]
			if len(had) > impl.KnwMost {
				t.Fatal(len(had))
			}
			for tag, init := range p.groups {
				if !impl.TagHas(tag, c.Tag+c.Name) {
					continue
				}
				if slices.ContainsFunc(commitsOf(p.w, tag[len(c.Tag):]), func(x impl.CmtCommit) bool { return x.Add == c.Remove }) {
					again++
					continue
				}
				if impl.KnwHas(had, impl.SpyBoxes(p.w), init) {
					t.Fatalf("%d knows %s from %q, behind %+v", c.Remove, init, had, c)
				}
				if impl.KnwHas(had, impl.SpyBoxes(p.w), p.groups[c.Tag]) {
					went++
				}
			}
		}
	}
	enough(t, 50, went, again)
}

// Promises 10 and 98: each frame was heard behind the commits behind which it was said, by another one, in whose group who said it was at that time; and nobody has heard one twice.
func TestWhatIsHeardWasSaid(t *testing.T) {
	heard := 0
	for _, p := range walks(136, 150, 80, ofAny, func(was impl.GrpWorld, e impl.EvEvent, p *past) {
		if !turnedBy(was, e, p, impl.EvGet) {
			return
		}
		f, m := was.Frames[e.At], was.Seats[e.Who]
		if f.From == e.Who || !slices.Contains(impl.TreIn(m.Tree), f.From) || m.Tag != p.saidAt[e.At] {
			t.Fatalf("%+v, of %+v", f, m)
		}
	}) {
		for i, told := range p.w.Told {
			if p.w.Frames[told.At].From == told.Who || p.saidAt[told.At] != p.heardAt[i] || slices.Index(p.w.Told, told) != i {
				t.Fatalf("%+v, behind %s, and said behind %s", told, p.heardAt[i], p.saidAt[told.At])
			}
			heard++
		}
	}
	enough(t, 500, heard)
}

// Promise 11.
func TestWhatIsAboveAllUnderItKnow(t *testing.T) {
	both, not := 0, 0
	for _, p := range walked(137, 100, 60, ofAny) {
		boxes := impl.SpyBoxes(p.w)
		for _, m := range eachIn(p.w) {
			known := impl.KnwOpen(impl.MemKnows(m), boxes)
			for _, other := range eachIn(p.w) {
				if other.Who == m.Who {
					continue
				}
				for node, key := range m.Tree.Keys {
					if m.Tag != other.Tag || key == "" || !liesFrom(ownOf[m.Who], node) || !liesFrom(ownOf[other.Who], node) {
						continue
					}
					both++
					if s := secretOf(m, node); s == "" || s != secretOf(other, node) || "k"+s != key {
						t.Fatalf("place %d, of %+v and %+v", node, m, other)
					}
				}
				for _, own := range other.Own {
					if !liesFrom(ownOf[m.Who], own.Node) {
						not++
						if impl.KnwMake(known, own.Secret) {
							t.Fatalf("%+v is known to %+v", own, m)
						}
					}
				}
			}
		}
	}
	enough(t, 500, both, not)
}

// Promise 30: who comes is ok, with the keys of who sent it, in the epoch of those who heard it; with other secrets, or by another commit, it does not.
func TestWhoComesHasWhatTheGroupHas(t *testing.T) {
	came, not := 0, 0
	walks(138, 120, 60, ofAny, func(was impl.GrpWorld, e impl.EvEvent, p *past) {
		if !turnedBy(was, e, p, impl.EvJoin) {
			return
		}
		came++
		c, m := was.Log[e.At], p.w.Seats[e.Who]
		if !impl.MemOk(m) || !m.In || m.Tag != c.Tag+c.Name || !slices.Equal(m.Tree.Keys, c.Keys) || m.Init != p.groups[m.Tag] || m.Epoch != len(impl.TagNames(m.Tag)) {
			t.Fatalf("%+v, by %+v", m, c)
		}
		wait := was.Waits[slices.IndexFunc(was.Waits, func(x impl.GrpWait) bool { return x.Who == e.Who && x.At == e.At })]
		for _, no := range []string{wait.Key, "", "H99;", "n" + wait.Leaf} {
			staysOut(t, "another secret", e.Who, no, wait.Key, c)
		}
		for _, no := range []string{wait.Leaf, "", "H99;", "n" + wait.Key} {
			staysOut(t, "another secret", e.Who, wait.Leaf, no, c)
		}
		for at, other := range was.Log {
			if at != e.At {
				not++
				staysOut(t, "another commit", e.Who, wait.Leaf, wait.Key, other)
			}
		}
	})
	enough(t, 200, came, not)
}

// Promise 36.
func TestWhoIsInKnowsWhatTheGroupHas(t *testing.T) {
	others := 0
	for _, p := range walked(139, 100, 60, ofAny) {
		boxes := impl.SpyBoxes(p.w)
		for _, m := range eachIn(p.w) {
			has := impl.MemKnows(m)
			if !impl.KnwMake(has, m.Init) {
				t.Fatalf("%+v", m)
			}
			for _, who := range impl.TreIn(m.Tree) {
				if say := impl.MakSay(m.Init, who); say == "" || !impl.KnwMake(has, say) {
					t.Fatalf("%+v does not know what %d says with", m, who)
				}
			}
			known := impl.KnwOpen(has, boxes)
			for _, other := range eachIn(p.w) {
				if other.Who != m.Who {
					others++
					if leaf := secretOf(other, ownOf[other.Who]); leaf == "" || impl.KnwMake(has, leaf) || impl.KnwMake(known, leaf) {
						t.Fatalf("%+v knows %s", m, leaf)
					}
				}
			}
		}
	}
	enough(t, 500, others)
}

// Promises 37 and 99: rooms.
func TestWhatARoomHas(t *testing.T) {
	known, not := 0, 0
	for _, p := range walked(140, 30, 50, ofAny) {
		for tag, init := range p.groups {
			has, way := impl.SpyHas(p.w, init), stolenOnTheWay(p.w, tag)
			for room := 1; room <= impl.SecRooms; room++ {
				s := impl.MakRoom(init, room)
				if s == "" || !impl.KnwMake([]string{init}, s) || impl.KnwMake([]string{s}, init) {
					t.Fatalf("room %d of %s", room, init)
				}
				for other := 1; other <= impl.SecRooms; other++ {
					if impl.KnwMake([]string{s}, impl.MakRoom(init, other)) != (other == room) {
						t.Fatalf("rooms %d and %d of %s", room, other, init)
					}
				}
				got := impl.SpyHas(p.w, s)
				if got && !way || has && !got {
					t.Fatalf("room %d of %s, behind %s, of %+v", room, init, tag, p.w.Stolen)
				}
				if got {
					known++
				} else {
					not++
				}
			}
		}
	}
	enough(t, 300, known, not)
}

// Promise 38.
func TestWhoHasStolenNothingOpensNothing(t *testing.T) {
	opened, not := 0, 0
	for _, p := range walked(141, 120, 70, ofAny) {
		hears := impl.SpyHears(p.w)
		for at := range p.w.Frames {
			if !slices.Contains(hears, at) {
				not++
				continue
			}
			opened++
			if !stolenOnTheWay(p.w, p.saidAt[at]) {
				t.Fatalf("frame %d, said behind %s, of %+v", at, p.saidAt[at], p.w.Stolen)
			}
		}
	}
	for _, p := range walked(142, 60, 70, ofNobody) {
		if got := impl.SpyHears(p.w); len(got) != 0 {
			t.Fatalf("%v, and nothing was stolen", got)
		}
	}
	enough(t, 300, opened, not)
}

// Promises 39 and 40: a group's world begins with one, and stays ok.
func TestAGroupsWorldStaysOne(t *testing.T) {
	for who := range impl.SecMany {
		w := impl.GrpNew(who)
		m := w.Seats[who]
		if !impl.GrpOk(w) || !slices.Equal(whoIsIn(w), []int{who}) || !slices.Equal(impl.TreIn(m.Tree), []int{who}) || m.Epoch != 0 || m.Tag != "" || len(w.Log)+len(w.Waits)+len(w.Frames)+len(w.Stolen)+len(w.Spy)+len(w.Told) != 0 {
			t.Fatalf("%+v", w)
		}
		if len(impl.SpyBoxes(w))+len(impl.SpyKnows(w))+len(impl.SpyHears(w)) != 0 || impl.SpyHas(w, m.Init) || impl.SpyMay(w, "") {
			t.Fatalf("of %+v something is known", w)
		}
	}
	for _, p := range walks(143, 120, 60, ofAny, func(_ impl.GrpWorld, e impl.EvEvent, p *past) {
		if !impl.GrpOk(p.w) {
			t.Fatalf("%+v is not ok, behind %+v", p.w, e)
		}
	}) {
		if calm := impl.GrpCalm(p.w); !impl.GrpOk(calm) {
			t.Fatalf("%+v is not ok", calm)
		}
	}
}

// Promise 41.
func TestWhatHappensIsItsFirstPartAndThenTheRest(t *testing.T) {
	r := rand.New(rand.NewSource(144))
	for range 20 {
		begun := impl.GrpNew(r.Intn(8))
		var events []impl.EvEvent
		w := begun
		for range impl.EvMaxRun {
			e := someEvent(r, w)
			events, w = append(events, e), impl.GrpStep(w, e)
		}
		if got := impl.GrpRun(begun, events); !sameWorld(got, w) {
			t.Fatalf("%+v, not %+v", got, w)
		}
		for _, cut := range []int{0, 1, r.Intn(len(events)), len(events) - 1, len(events)} {
			if got := impl.GrpRun(impl.GrpRun(begun, events[:cut]), events[cut:]); !sameWorld(got, w) {
				t.Fatalf("%+v, not %+v, cut at %d", got, w, cut)
			}
		}
	}
}

// Promise 43: lists keep what they had, and have one more at most; so do the numbers of secrets, but that who comes makes two.
func TestWhatWasSentStays(t *testing.T) {
	walks(145, 120, 70, ofAny, func(was impl.GrpWorld, e impl.EvEvent, p *past) {
		w := p.w
		log, frames, stolen, told := len(was.Log), len(was.Frames), len(was.Stolen), len(was.Told)
		if len(w.Log) < log || len(w.Frames) < frames || len(w.Stolen) < stolen || len(w.Told) < told || len(w.Spy) < len(was.Spy) {
			t.Fatalf("%+v, of %+v", w, was)
		}
		if len(w.Log)-log+len(w.Frames)-frames+len(w.Stolen)-stolen+len(w.Told)-told > 1 {
			t.Fatalf("%+v, of %+v", w, was)
		}
		if !slices.EqualFunc(w.Log[:log], was.Log, sameCommit) || !slices.Equal(w.Frames[:frames], was.Frames) || !slices.Equal(w.Stolen[:stolen], was.Stolen) || !slices.Equal(w.Told[:told], was.Told) || !slices.Equal(w.Spy[:len(was.Spy)], was.Spy) {
			t.Fatalf("%+v, of %+v", w, was)
		}
		for who, made := range w.Fresh {
			more := made - was.Fresh[who]
			sent, comes := len(w.Log) > log && who == e.Who, len(w.Log) > log && who == e.Add
			if more < 0 || more > 2 || more == 1 != sent || more == 2 != comes {
				t.Fatalf("%d made %d more, by %+v", who, more, e)
			}
		}
	})
}

// Promises 44 and 68: commits make a tree, and are named by what their senders made.
func TestCommitsMakeATree(t *testing.T) {
	commits, comes, goes, same := 0, 0, 0, 0
	for _, p := range walks(146, 150, 60, ofAny, func(_ impl.GrpWorld, _ impl.EvEvent, p *past) {
		for _, m := range eachIn(p.w) {
			if m.Tag != "" && !slices.ContainsFunc(p.w.Log, func(c impl.CmtCommit) bool { return c.Tag+c.Name == m.Tag }) {
				t.Fatalf("%+v is behind no commit of %+v", m, p.w.Log)
			}
		}
	}) {
		for at, c := range p.w.Log {
			commits++
			if c.Tag != "" && !slices.ContainsFunc(p.w.Log[:at], func(x impl.CmtCommit) bool { return x.Tag+x.Name == c.Tag }) {
				t.Fatalf("%+v goes on from none of %+v", c, p.w.Log[:at])
			}
			if slices.ContainsFunc(p.w.Log[:at], func(x impl.CmtCommit) bool { return x.Name == c.Name }) {
				t.Fatalf("%+v has a name twice", c)
			}
			if how := impl.SecMade(c.Name); how.Op != impl.SecNew || how.Who != c.Sender || how.N < 1 || how.N > p.w.Fresh[c.Sender] {
				t.Fatalf("%+v", c)
			}
			in := impl.TreIn(impl.TreTree{Keys: c.Keys})
			if c.Add == c.Sender || c.Remove == c.Sender || !slices.Contains(in, c.Sender) {
				t.Fatalf("%+v", c)
			}
			if c.Add >= 0 {
				comes++
				if !slices.Contains(in, c.Add) {
					t.Fatalf("%+v", c)
				}
			}
			if c.Remove >= 0 && c.Remove != c.Add {
				goes++
				if slices.Contains(in, c.Remove) {
					t.Fatalf("%+v", c)
				}
			} else if c.Remove >= 0 {
				same++
			}
		}
	}
	enough(t, 30, commits, comes, goes, same)
}

// Promise 45.
func TestTheEpochIsHowManyCommitsThereWere(t *testing.T) {
	last := 0
	walks(147, 150, 70, ofAny, func(_ impl.GrpWorld, _ impl.EvEvent, p *past) {
		for _, m := range eachIn(p.w) {
			made, many := m.Init, 0
			for impl.SecMade(made).Op == impl.SecEpoch {
				made = impl.SecMade(made).A
				many++
			}
			if m.Epoch != len(impl.TagNames(m.Tag)) || m.Epoch != many || impl.SecMade(made).Op != impl.SecNew || strings.Join(impl.TagNames(m.Tag), "") != m.Tag {
				t.Fatalf("%+v", m)
			}
			last = max(last, m.Epoch)
		}
	})
	enough(t, impl.MemEpochs, last)
}

// Promise 67.
func TestEachWhoHearsOpensOneBox(t *testing.T) {
	told, gone := 0, 0
	walks(148, 150, 60, ofAny, func(was impl.GrpWorld, e impl.EvEvent, p *past) {
		if !turnedBy(was, e, p, impl.EvCommit) {
			return
		}
		c := p.w.Log[len(was.Log)]
		for _, m := range eachIn(was) {
			if m.Who == e.Who || m.Tag != c.Tag {
				continue
			}
			opens := 0
			for _, box := range c.Boxes {
				if slices.Contains(keysOf(m), box.Key) {
					opens++
				}
			}
			if m.Who == c.Remove {
				gone++
			} else {
				told++
			}
			if opens != 1 && m.Who != c.Remove || opens != 0 && m.Who == c.Remove {
				t.Fatalf("%+v opens %d boxes of %+v", m, opens, c)
			}
		}
	})
	enough(t, 100, told, gone)
}

// Promise 69.
func TestWhoWaitsWasLetIn(t *testing.T) {
	waits := 0
	walks(149, 100, 60, ofAny, func(was impl.GrpWorld, e impl.EvEvent, p *past) {
		if sameWorld(was, p.w) {
			return
		}
		for _, x := range p.w.Waits {
			waits++
			if c := p.w.Log[x.At]; c.Add != x.Who || c.Leaf != "k"+x.Leaf || c.Welcome.Key != "k"+x.Key {
				t.Fatalf("%+v waits for %+v", x, c)
			}
			if impl.SpyHas(p.w, x.Leaf) || impl.SpyHas(p.w, x.Key) {
				t.Fatalf("%+v is known, of %+v", x, p.w.Stolen)
			}
		}
	})
	enough(t, 1000, waits)
}

// Promises 70, 72 and 96: who steals turns nothing, and knows what each of whom it steals can; of each, all.
func TestWhoSteals(t *testing.T) {
	alone, all := 0, 0
	for i, p := range slices.Concat(walked(150, 100, 40, ofNobody), walked(151, 100, 50, ofAny)) {
		each := p.w
		for _, m := range eachIn(p.w) {
			w := impl.GrpStep(p.w, isStolenOf(m.Who))
			other := copyOfWorld(w)
			other.Spy, other.Stolen = p.w.Spy, p.w.Stolen
			if !sameWorld(other, p.w) {
				t.Fatalf("%+v, of %+v", w, p.w)
			}
			known := impl.SpyKnows(w)
			for _, s := range impl.SpyKnows(p.w) {
				if !slices.Contains(known, s) {
					t.Fatalf("%s is not known, of %+v", s, w.Stolen)
				}
			}
			if i < 100 {
				alone++
				if want := impl.KnwOpen(impl.MemKnows(m), impl.SpyBoxes(p.w)); !slices.Equal(known, want) {
					t.Fatalf("%q, not %q", known, want)
				}
			}
			each = impl.GrpStep(each, isStolenOf(m.Who))
		}
		if len(each.Stolen) != len(p.w.Stolen)+len(eachIn(p.w)) {
			continue // more thefts than there may be
		}
		all++
		for _, m := range eachIn(each) {
			if !impl.SpyHas(each, m.Init) || !impl.SpyMay(each, m.Tag) {
				t.Fatalf("%s is not known, of %+v", m.Init, each.Stolen)
			}
		}
	}
	enough(t, 100, alone, all)
}

// Promise 71.
func TestWhatIsOnesOwnIsKnownJustIfItWasStolenOfIt(t *testing.T) {
	known, not := 0, 0
	for _, p := range walked(152, 150, 60, ofAny) {
		for _, m := range eachIn(p.w) {
			if !impl.SpyHas(p.w, secretOf(m, ownOf[m.Who])) {
				not++
				continue
			}
			known++
			if !slices.ContainsFunc(p.w.Stolen, func(x impl.GrpSteal) bool { return x.Who == m.Who }) {
				t.Fatalf("%+v, of %+v", m, p.w.Stolen)
			}
		}
	}
	enough(t, 100, known, not)
}

// Promise 79.
func TestWhatCannotHappenDoesNot(t *testing.T) {
	nobodies := outOf(0, impl.SecMany-1)
	none := 0
	for _, p := range walked(153, 40, 50, ofAny) {
		for _, who := range nobodies {
			leavesAll(t, "nobody", p.w, anyOfEach(who, 0)...)
		}
		for who := range impl.SecMany {
			for _, at := range []int{-1, len(p.w.Log), len(p.w.Log) + 1, 1 << 40} {
				leavesAll(t, "no commit", p.w, hearsAt(who, at), joinsAt(who, at))
			}
			for _, at := range []int{-1, len(p.w.Frames), len(p.w.Frames) + 1, 1 << 40} {
				leavesAll(t, "no frame", p.w, getsAt(who, at))
			}
			if !p.w.Seats[who].In {
				none++
				leavesAll(t, "who is not in", p.w, goesOn(who, -1, -1), goesOn(who, (who+1)%8, -1), saysText(who, "hi"), isStolenOf(who))
			}
		}
	}
	enough(t, 50, none)
}

// Promise 80: seats, what each has said, and windows, of all others stay as they are; what is new is of who does it.
func TestAStepIsOnes(t *testing.T) {
	turns := 0
	walks(154, 150, 60, ofAny, func(was impl.GrpWorld, e impl.EvEvent, p *past) {
		w := p.w
		if !sameWorld(was, w) {
			turns++
		}
		for who := range impl.SecMany {
			if who != e.Who && (!sameMember(w.Seats[who], was.Seats[who]) || w.Said[who] != was.Said[who] || !sameWins(w.Wins[who], was.Wins[who])) {
				t.Fatalf("%d turned by %+v", who, e)
			}
		}
		for _, c := range w.Log[len(was.Log):] {
			if c.Sender != e.Who {
				t.Fatalf("%+v, by %+v", c, e)
			}
		}
		for _, f := range w.Frames[len(was.Frames):] {
			if f.From != e.Who {
				t.Fatalf("%+v, by %+v", f, e)
			}
		}
		for _, x := range w.Stolen[len(was.Stolen):] {
			if x.Who != e.Who || x.Tag != was.Seats[e.Who].Tag {
				t.Fatalf("%+v, by %+v", x, e)
			}
		}
		for _, x := range w.Told[len(was.Told):] {
			if x.Who != e.Who || x.At != e.At {
				t.Fatalf("%+v, by %+v", x, e)
			}
		}
	})
	enough(t, 2000, turns)
}

// Promise 81: its place has the secret that it had, and each place below where both meet that still has a key; from there up all have others.
func TestWhoHearsKeepsWhatIsItsOwn(t *testing.T) {
	kept, cleared, others := 0, 0, 0
	walks(155, 200, 60, ofAny, func(was impl.GrpWorld, e impl.EvEvent, p *past) {
		if !turnedBy(was, e, p, impl.EvHear) || !p.w.Seats[e.Who].In {
			return
		}
		m := p.w.Seats[e.Who]
		old, meet := was.Seats[e.Who], plainlyMeets(e.Who, was.Log[e.At].Sender)
		for _, node := range plainlyUpward(ownOf[e.Who]) {
			is, had := secretOf(m, node), secretOf(old, node)
			switch {
			case liesFrom(meet, node):
				others++
				if is == "" || is == had {
					t.Fatalf("place %d of %+v, and of %+v", node, m, old)
				}
			case m.Tree.Keys[node] == "" && node != ownOf[e.Who]:
				cleared++
				if is != "" {
					t.Fatalf("place %d of %+v, and of %+v", node, m, old)
				}
			default:
				kept++
				if is == "" || is != had {
					t.Fatalf("place %d of %+v, and of %+v", node, m, old)
				}
			}
		}
	})
	enough(t, 100, kept, cleared, others)
}

// Promise 91.
func TestWhoHearsFirstMakesNoDifference(t *testing.T) {
	both := 0
	walks(156, 60, 60, ofAny, func(was impl.GrpWorld, e impl.EvEvent, p *past) {
		if !turnedBy(was, e, p, impl.EvCommit) {
			return
		}
		var can []impl.EvEvent
		for who := range impl.SecMany {
			for _, e := range []impl.EvEvent{hearsAt(who, len(was.Log)), joinsAt(who, len(was.Log))} {
				if !sameWorld(impl.GrpStep(p.w, e), p.w) {
					can = append(can, e)
				}
			}
		}
		for i, a := range can {
			for _, b := range can[:i] {
				if a.Who == b.Who {
					continue
				}
				both++
				one, other := impl.GrpRun(p.w, []impl.EvEvent{a, b}), impl.GrpRun(p.w, []impl.EvEvent{b, a})
				if !sameWorld(one, other) {
					t.Fatalf("%+v and %+v", a, b)
				}
			}
		}
	})
	enough(t, 200, both)
}

// Promise 95.
func TestWhatIsKnownStaysKnown(t *testing.T) {
	more := 0
	walks(157, 60, 60, ofAny, func(was impl.GrpWorld, e impl.EvEvent, p *past) {
		before, now := impl.SpyKnows(was), impl.SpyKnows(p.w)
		if len(now) > len(before) {
			more++
		}
		for _, s := range before {
			if !slices.Contains(now, s) {
				t.Fatalf("%s is not known any more, behind %+v", s, e)
			}
		}
		hears := impl.SpyHears(p.w)
		for _, at := range impl.SpyHears(was) {
			if !slices.Contains(hears, at) {
				t.Fatalf("frame %d is not opened any more, behind %+v", at, e)
			}
		}
	})
	enough(t, 100, more)
}

// Promise 97.
func TestWhatTwoSayIsShutWithTwo(t *testing.T) {
	one, two := 0, 0
	for _, p := range walked(158, 100, 80, ofAny) {
		for i, a := range p.w.Frames {
			for j, b := range p.w.Frames[:i] {
				same := a.From == b.From && p.saidAt[i] == p.saidAt[j]
				if same != (a.Key == b.Key) || same && a.N == b.N {
					t.Fatalf("%+v and %+v, behind %s and %s", a, b, p.saidAt[i], p.saidAt[j])
				}
				if same {
					one++
				} else {
					two++
				}
			}
		}
	}
	enough(t, 300, one, two)
}
