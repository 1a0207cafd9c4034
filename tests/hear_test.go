package tests

import (
	"math/rand"
	"slices"
	"strings"
	"testing"

	"loop.example/keyward/impl"
)

// stays fails unless a commit is not heard, and who does not hear it is as it is.
func stays(t *testing.T, what string, m impl.MemMember, c impl.CmtCommit) {
	t.Helper()
	if got, ok := impl.MemHear(m, c); ok || !sameMember(got, m) {
		t.Fatalf("%s: %+v and %v, of %+v and %+v", what, got, ok, m, c)
	}
}

// hears is who hears a commit as it is then; the test fails if it does not, or not as the document says.
func hears(t *testing.T, what string, m impl.MemMember, c impl.CmtCommit) impl.MemMember {
	t.Helper()
	got, ok := impl.MemHear(m, c)
	if want, may := plainlyHear(m, c); !ok || !may || !sameMember(got, want) {
		t.Fatalf("%s: %+v and %v, not %+v and %v, of %+v and %+v", what, got, ok, want, may, m, c)
	}
	return got
}

// Promise 2.
func TestWhoGoesOnHasNewKeys(t *testing.T) {
	sent := someSent()
	if len(sent) < 1000 {
		t.Fatalf("only %d were sent", len(sent))
	}
	for _, s := range sent {
		m := s.ask.m
		next, c, ok := s.ask.commits()
		if !ok || !impl.MemOk(next) || !next.In || next.Who != m.Who || next.Epoch != m.Epoch+1 || next.Tag != m.Tag+s.ask.fresh {
			t.Fatalf("%+v and %v, of %+v", next, ok, s.ask)
		}
		for who := range impl.SecMany {
			was, is := slices.Contains(impl.TreIn(m.Tree), who), slices.Contains(impl.TreIn(next.Tree), who)
			if is != (who == s.ask.add || was && who != s.ask.remove) {
				t.Fatalf("%d is in: %v, of %+v", who, is, s.ask)
			}
		}
		for _, p := range plainlyUpward(ownOf[m.Who]) {
			if next.Tree.Keys[p] == "" || slices.Contains(m.Tree.Keys, next.Tree.Keys[p]) {
				t.Fatalf("%q at %d is not new, of %+v", next.Tree.Keys[p], p, s.ask)
			}
		}
		for _, own := range next.Own {
			if slices.ContainsFunc(m.Own, func(was impl.MemOwn) bool { return was.Secret == own.Secret }) {
				t.Fatalf("%+v is not new, of %+v", own, s.ask)
			}
		}
		how := impl.SecMade(next.Init)
		if how.Op != impl.SecEpoch || how.A != m.Init || impl.KnwMake(impl.MemKnows(m), how.B) || !impl.KnwMake([]string{next.Own[0].Secret}, how.B) {
			t.Fatalf("%q, of %+v", next.Init, s.ask)
		}
		if !impl.CmtOk(c) || !plainlyCommitOk(c) || !slices.Equal(c.Keys, next.Tree.Keys) {
			t.Fatalf("%+v is not ok, of %+v", c, s.ask)
		}
	}
}

// Promise 3.
func TestWhoHearsGoesOnLikeWhoSent(t *testing.T) {
	heard, gone := 0, 0
	for _, s := range someSent() {
		for _, m := range s.hearers() {
			got, ok := impl.MemHear(m, s.c)
			if m.Who == s.ask.remove {
				if !ok || !sameMember(got, impl.MemMember{}) {
					t.Fatalf("%+v and %v, of who is let go by %+v", got, ok, s.c)
				}
				gone++
				continue
			}
			heard++
			if !ok || !impl.MemOk(got) || !got.In || got.Who != m.Who || got.Epoch != m.Epoch+1 || got.Tag != m.Tag+s.c.Name || !slices.Equal(got.Tree.Keys, s.c.Keys) {
				t.Fatalf("%+v and %v, of %+v and %+v", got, ok, m, s.c)
			}
			if impl.SecMade(got.Init).A != m.Init || got.Init != s.next.Init || got.Epoch != s.next.Epoch || got.Tag != s.next.Tag || !slices.Equal(got.Tree.Keys, s.next.Tree.Keys) {
				t.Fatalf("%+v is not like %+v, behind %+v", got, s.next, s.c)
			}
			if want, may := plainlyHear(m, s.c); !may || !sameMember(got, want) {
				t.Fatalf("%+v, not %+v, of %+v and %+v", got, want, m, s.c)
			}
		}
	}
	if heard < 3000 || gone < 300 {
		t.Fatalf("%d heard, and %d were let go", heard, gone)
	}
}

// Promise 29.
func TestACommitIsHeardOnce(t *testing.T) {
	for _, s := range someSent() {
		for _, m := range s.hearers() {
			got, ok := impl.MemHear(m, s.c)
			if !ok {
				t.Fatalf("%+v does not hear %+v", m, s.c)
			}
			stays(t, "twice", got, s.c)
		}
		stays(t, "its own", s.ask.m, s.c)
		stays(t, "its own, behind it", s.next, s.c)
	}
}

// Promise 29: nobody hears its own, though there be a box for it, and all keys be right.
func TestWhoSentItDoesNotHearIt(t *testing.T) {
	for _, s := range someSent() {
		// What it would be told of where it meets itself: its own place.
		c := turnedCommit(s.c, func(c *impl.CmtCommit) {
			c.Boxes = append([]impl.KnwBox{{Key: "k" + s.ask.m.Own[0].Secret, Secret: c.Name}}, c.Boxes[:min(len(c.Boxes), 19)]...)
		})
		if !impl.CmtOk(c) {
			t.Fatalf("%+v is not ok", c)
		}
		stays(t, "its own", s.ask.m, c)
	}
}

// Promise 88.
func TestWhoIsNotToldDoesNotHear(t *testing.T) {
	for _, s := range someSent() {
		for _, m := range s.staying() {
			mine := func(b impl.KnwBox) bool {
				return slices.ContainsFunc(m.Own, func(own impl.MemOwn) bool { return "k"+own.Secret == b.Key })
			}
			c := turnedCommit(s.c, func(c *impl.CmtCommit) { c.Boxes = slices.DeleteFunc(c.Boxes, mine) })
			if len(c.Boxes) != len(s.c.Boxes)-1 {
				t.Fatalf("%d boxes are left of %d, for %d", len(c.Boxes), len(s.c.Boxes), m.Who)
			}
			stays(t, "without its box", m, c)
			stays(t, "without boxes", m, turnedCommit(s.c, func(c *impl.CmtCommit) { c.Boxes = nil }))
			alone := turnedCommit(s.c, func(c *impl.CmtCommit) {
				c.Boxes = slices.DeleteFunc(c.Boxes, func(b impl.KnwBox) bool { return !mine(b) })
			})
			hears(t, "its box alone", m, alone)
			other := turnedCommit(s.c, func(c *impl.CmtCommit) { c.Boxes[slices.IndexFunc(c.Boxes, mine)].Key = "kH96;" })
			stays(t, "a box of another one's key", m, other)
		}
		// Who is let go needs no box.
		for _, m := range s.hearers() {
			if m.Who == s.ask.remove {
				hears(t, "let go without boxes", m, turnedCommit(s.c, func(c *impl.CmtCommit) { c.Boxes = nil }))
			}
		}
	}
}

// Promise 89.
func TestWhoHearsAndWhoSendsMeet(t *testing.T) {
	for _, s := range someSent() {
		for _, m := range s.staying() {
			at := slices.IndexFunc(s.c.Boxes, func(b impl.KnwBox) bool { return slices.Contains(keysOf(m), b.Key) })
			got := hears(t, "one", m, s.c)
			secret := s.c.Boxes[at].Secret
			meet := impl.TreMeet(impl.TreLeaf(m.Who), impl.TreLeaf(s.c.Sender))
			for _, p := range append([]int{meet}, impl.TreUp(meet)...) {
				i := slices.IndexFunc(got.Own, func(own impl.MemOwn) bool { return own.Node == p })
				if i < 0 || got.Own[i].Secret != secret || got.Tree.Keys[p] != impl.MakKey(secret) || s.c.Keys[p] != impl.MakKey(secret) {
					t.Fatalf("%+v has not %q at %d, behind %+v", got, secret, p, s.c)
				}
				if !slices.Contains(s.next.Own, got.Own[i]) {
					t.Fatalf("%+v is not what who sent it has: %+v", got.Own[i], s.next)
				}
				secret = impl.MakNext(secret)
			}
			for _, own := range got.Own {
				if !liesFrom(meet, own.Node) && !slices.Contains(m.Own, own) {
					t.Fatalf("%+v was not had, of %+v behind %+v", own, m, s.c)
				}
			}
			if got.Own[0] != m.Own[0] {
				t.Fatalf("%+v, and had %+v at its place", got, m.Own[0])
			}
		}
	}
}

// keysOf is the keys of all secrets that one has of places.
func keysOf(m impl.MemMember) []string {
	var keys []string
	for _, own := range m.Own {
		keys = append(keys, "k"+own.Secret)
	}
	return keys
}

// Promise 90: another key at each place in turn; where who sends it may have turned it, it matters just from where both meet.
func TestAKeyThatIsNotTheGroupsIsNotHeard(t *testing.T) {
	for n, s := range fewSent() {
		for _, m := range s.hearers() {
			meet := plainlyMeets(m.Who, s.c.Sender)
			for p, key := range s.c.Keys {
				others := []string{"kH95;", "", m.Tree.Keys[p], s.c.Keys[(p+1+n)%15]}
				for _, other := range others {
					if other == key {
						continue
					}
					c := turnedCommit(s.c, func(c *impl.CmtCommit) { c.Keys[p] = other })
					switch {
					case !liesFrom(ownOf[s.c.Sender], p):
						stays(t, "a key that is not its sender's", m, c)
					case m.Who == s.ask.remove || !liesFrom(meet, p):
						if got := hears(t, "a key of its sender's that is nobody else's", m, c); got.In && got.Tree.Keys[p] != other {
							t.Fatalf("%+v, of %+v", got, c)
						}
					default:
						stays(t, "a key of another secret than the one told", m, c)
					}
				}
			}
		}
	}
}

// Another way: who goes on apart does not hear the others.
func TestAnotherWay(t *testing.T) {
	for _, group := range someGroups() {
		for i, a := range group {
			for _, b := range group[i+1:] {
				nextA, c, okA := impl.MemCommit(a, impl.MakNew(a.Who, 77), -1, -1, "", "")
				nextB, d, okB := impl.MemCommit(b, impl.MakNew(b.Who, 78), -1, -1, "", "")
				if !okA || !okB {
					t.Fatalf("%+v and %+v do not go on", a, b)
				}
				stays(t, "another way", nextA, d)
				stays(t, "another way", nextB, c)
				for _, m := range group {
					if m.Who != a.Who && m.Who != b.Who {
						stays(t, "another way", hears(t, "one of both", m, c), d)
						stays(t, "another way", hears(t, "one of both", m, d), c)
					}
				}
			}
		}
	}
}

// What comes too early, and what is of other commits, is not heard: another Tag, longer, shorter, or of other bytes.
func TestAnotherTag(t *testing.T) {
	comes, none := handSent()
	for _, s := range []sentCommit{comes, none} {
		for _, tag := range []string{"", "A1;", s.c.Tag + "A5;", s.c.Tag[:len(s.c.Tag)-1], s.c.Tag[3:], "x" + s.c.Tag, s.c.Tag + " ", s.c.Tag + s.c.Name, strings.ToLower(s.c.Tag), strings.Replace(s.c.Tag, "A1;", "B1;", 1)} {
			for _, m := range s.hearers() {
				stays(t, "another tag", m, turnedCommit(s.c, func(c *impl.CmtCommit) { c.Tag = tag }))
				stays(t, "another tag", turned(m, func(m *impl.MemMember) { m.Tag = tag }), s.c)
			}
		}
		for _, m := range s.hearers() {
			for _, tag := range []string{"", "x", "A1;", "\xff;;"} {
				hears(t, "any tag", turned(m, func(m *impl.MemMember) { m.Tag = tag }), turnedCommit(s.c, func(c *impl.CmtCommit) { c.Tag = tag }))
			}
		}
	}
}

// Wrong inputs: who sends it is not in, who goes is not in, who comes is in and does not go; though all keys be those of such a base.
func TestWhoMayNotSendComeOrGo(t *testing.T) {
	group := groupOf(groupSecrets([]int{0, 1, 3, 2, 5}), 4, "A90;")
	for _, m := range group {
		for sender := range 8 {
			for add := -1; add < 8; add++ {
				for remove := -1; remove < 8; remove++ {
					if sender == m.Who || sender == add || sender == remove {
						continue
					}
					ask := commitAsk{m: turned(m, func(m *impl.MemMember) { m.Who = sender }), fresh: impl.MakNew(sender, 77), add: add, remove: remove}
					if add >= 0 {
						ask.leaf, ask.key = "k"+comesLeaf, "k"+comesKey
					}
					_, c := plainlyCommit(ask)
					in := []int{0, 1, 2, 3, 5}
					may := slices.Contains(in, sender) && (remove == -1 || slices.Contains(in, remove)) && (add == -1 || add == remove || !slices.Contains(in, add))
					if !may {
						stays(t, "who may not", m, c)
					} else if got := hears(t, "who may", m, c); got.In == (remove == m.Who) {
						t.Fatalf("%+v, of %+v", got, c)
					}
				}
			}
		}
	}
}

// Wrong inputs: a box with another secret, with that of another place, and with the right one behind a wrong one.
func TestABoxWithAnotherSecret(t *testing.T) {
	for _, s := range fewSent() {
		for _, m := range s.staying() {
			at := slices.IndexFunc(s.c.Boxes, func(b impl.KnwBox) bool { return slices.Contains(keysOf(m), b.Key) })
			right := s.c.Boxes[at]
			for _, no := range []string{"H95;", "n" + right.Secret, "k" + right.Secret, right.Key, right.Secret[1:], s.c.Name, m.Own[0].Secret, m.Init} {
				if no == right.Secret || !plainlyName(no) {
					continue
				}
				wrong := impl.KnwBox{Key: right.Key, Secret: no}
				stays(t, "another secret", m, turnedCommit(s.c, func(c *impl.CmtCommit) { c.Boxes[at] = wrong }))
				stays(t, "a wrong one first", m, turnedCommit(s.c, func(c *impl.CmtCommit) { c.Boxes = slices.Insert(c.Boxes, at, wrong) }))
				hears(t, "a wrong one behind", m, turnedCommit(s.c, func(c *impl.CmtCommit) { c.Boxes = append(c.Boxes, wrong) }))
			}
			// Of two boxes that it could open the first one counts, whichever of its secrets has the key.
			for _, own := range m.Own {
				wrong := impl.KnwBox{Key: "k" + own.Secret, Secret: "H95;"}
				stays(t, "a wrong one first", m, turnedCommit(s.c, func(c *impl.CmtCommit) { c.Boxes = slices.Insert(c.Boxes, 0, wrong) }))
				same := impl.KnwBox{Key: "k" + own.Secret, Secret: right.Secret}
				hears(t, "two that are right", m, turnedCommit(s.c, func(c *impl.CmtCommit) { c.Boxes = slices.Insert(c.Boxes, 0, same) }))
				hears(t, "by any secret that it has", m, turnedCommit(s.c, func(c *impl.CmtCommit) { c.Boxes = []impl.KnwBox{same} }))
				// A box is opened by its key alone, not by what that key was made from.
				stays(t, "the secret itself for a key", m, turnedCommit(s.c, func(c *impl.CmtCommit) { c.Boxes = []impl.KnwBox{{Key: own.Secret, Secret: right.Secret}} }))
			}
			// What the group has is of no place: it opens no box.
			m = turned(m, func(m *impl.MemMember) { m.Init = "H94;" })
			stays(t, "the key of what the group has", m, turnedCommit(s.c, func(c *impl.CmtCommit) { c.Boxes = []impl.KnwBox{{Key: "kH94;", Secret: right.Secret}} }))
		}
	}
}

// Wrong inputs: who is not ok hears nothing, and nobody hears a commit that is not ok; nothing comes of either.
func TestWhatIsNotOkIsNotHeard(t *testing.T) {
	comes, none := handSent()
	for _, s := range []sentCommit{comes, none} {
		for _, m := range append(wrongMembers(), impl.MemMember{}, impl.MemMember{Own: []impl.MemOwn{}}) {
			if got, ok := impl.MemHear(m, s.c); ok || !sameMember(got, impl.MemMember{}) {
				t.Errorf("%+v and %v, of %+v", got, ok, m)
			}
		}
	}
	for _, c := range wrongCommits(comes.c, none.c) {
		for _, m := range []impl.MemMember{comes.group[0], comes.group[4], {}, comes.ask.m} {
			if got, ok := impl.MemHear(m, c); ok || !sameMember(got, impl.MemMember{}) {
				t.Fatalf("%+v and %v, of %+v", got, ok, c)
			}
		}
	}
}

// What is not ok comes to nothing though the commit be not for it anyway, and who is let go hears just what is on its way.
func TestWhatIsAskedFirst(t *testing.T) {
	comes, _ := handSent()
	other := turnedCommit(comes.c, func(c *impl.CmtCommit) { c.Tag, c.Leaf = "x", "" })
	gone := comes.group[4]
	if got, ok := impl.MemHear(gone, other); ok || !sameMember(got, impl.MemMember{}) {
		t.Fatalf("%+v and %v", got, ok)
	}
	stays(t, "who would be let go, of other commits", gone, turnedCommit(comes.c, func(c *impl.CmtCommit) { c.Tag = "x" }))
	stays(t, "who would be let go, with another key", gone, turnedCommit(comes.c, func(c *impl.CmtCommit) { c.Keys[14] = "kH1;" }))
	stays(t, "who would be let go, in the last epoch", turned(gone, func(m *impl.MemMember) { m.Epoch = 12 }), comes.c)
	hears(t, "who is let go, though what the group has be too long", turned(gone, func(m *impl.MemMember) { m.Init = nameOfSize(300) }), comes.c)
	hears(t, "who is let go, with boxes of any secrets", gone, turnedCommit(comes.c, func(c *impl.CmtCommit) {
		c.Boxes = []impl.KnwBox{{Key: "k" + gone.Own[0].Secret, Secret: nameOfSize(300)}}
	}))
}

// The edges: ahead of the last epoch one hears, in it nobody does.
func TestNobodyHearsInTheLastEpoch(t *testing.T) {
	for _, s := range fewSent() {
		for _, m := range s.staying() {
			for _, epoch := range []int{0, 10, 11} {
				if got := hears(t, "ahead of the last", turned(m, func(m *impl.MemMember) { m.Epoch = epoch }), s.c); got.Epoch != epoch+1 {
					t.Fatal(got.Epoch)
				}
			}
			stays(t, "in the last", turned(m, func(m *impl.MemMember) { m.Epoch = 12 }), s.c)
		}
	}
}

// The edges: Tag and Name together of just SecLong bytes are heard.
func TestJustSoLongTagsAreHeard(t *testing.T) {
	comes, none := handSent()
	for _, s := range []sentCommit{comes, none} {
		for _, name := range []string{"C7;", "C77;"} {
			for _, m := range s.staying() {
				for size := 295; size <= 300; size++ {
					tag := strings.Repeat("A1;", 100)[:size]
					m := turned(m, func(m *impl.MemMember) { m.Tag = tag })
					c := turnedCommit(s.c, func(c *impl.CmtCommit) { c.Tag, c.Name = tag, name })
					if size+len(name) <= 300 {
						if got := hears(t, "just so long", m, c); got.Tag != tag+name || !impl.MemOk(got) {
							t.Fatalf("%+v", got)
						}
					} else if got, ok := impl.MemHear(m, c); ok || !sameMember(got, impl.MemMember{}) {
						t.Fatalf("%+v is heard, to %d bytes", got, size+len(name))
					}
				}
			}
		}
	}
}

// The edges: just 20 boxes are heard, whichever is one's own.
func TestJustSoManyBoxesAreHeard(t *testing.T) {
	_, none := handSent()
	for _, m := range none.staying() {
		at := slices.IndexFunc(none.c.Boxes, func(b impl.KnwBox) bool { return slices.Contains(keysOf(m), b.Key) })
		for _, many := range []int{1, 2, 19, 20, 21, 22} {
			for i := range many {
				boxes := slices.Repeat([]impl.KnwBox{{Key: "kH90;", Secret: "H91;"}}, many)
				boxes[i] = none.c.Boxes[at]
				c := turnedCommit(none.c, func(c *impl.CmtCommit) { c.Boxes = boxes })
				if many <= 20 {
					hears(t, "just so many", m, c)
				} else if got, ok := impl.MemHear(m, c); ok || !sameMember(got, impl.MemMember{}) {
					t.Fatalf("%+v hears one of %d boxes", got, many)
				}
			}
		}
	}
}

// The edges: a secret in a box of just SecLong - 8 bytes, wherever both meet, and of one more, though it would still make names.
func TestJustSoLongSecretsAreTold(t *testing.T) {
	for _, group := range someGroups() {
		for _, m := range group {
			m = turned(m, func(m *impl.MemMember) { m.Init = "A2;" })
			for _, other := range group {
				if other.Who == m.Who {
					continue
				}
				for _, size := range []int{3, 200, 291, 292} {
					if got := hears(t, "just so long", m, toldIn(m, other.Who, nameOfSize(size))); !impl.MemOk(got) || got.Init != "eA2;"+strings.Repeat("n", len(plainlyUpward(plainlyMeets(m.Who, other.Who))))+nameOfSize(size) {
						t.Fatalf("%+v", got)
					}
				}
				stays(t, "one more", m, toldIn(m, other.Who, nameOfSize(293)))
				stays(t, "two more", m, toldIn(m, other.Who, nameOfSize(294)))
				stays(t, "too long for a key above", m, turnedCommit(toldIn(m, other.Who, "A1;"), func(c *impl.CmtCommit) { c.Boxes[0].Secret = nameOfSize(300) }))
			}
		}
	}
}

// The edges: Init that is just not too long for a name behind that, and just too long.
func TestJustSoLongWhatTheGroupHasIsHeard(t *testing.T) {
	for _, s := range fewSent() {
		for _, m := range s.staying() {
			// "e" and "nnnn" and the name are what comes to it.
			most := 300 - 5 - len(s.c.Name)
			for _, size := range []int{most - 1, most} {
				if got := hears(t, "just so long", turned(m, func(m *impl.MemMember) { m.Init = nameOfSize(size) }), s.c); len(got.Init) != size+5+len(s.c.Name) || !impl.MemOk(got) {
					t.Fatalf("%+v", got)
				}
			}
			for _, size := range []int{most + 1, most + 2, 300} {
				stays(t, "just too long", turned(m, func(m *impl.MemMember) { m.Init = nameOfSize(size) }), s.c)
			}
		}
	}
	// Of a long secret and a short Init it is the same.
	group := groupOf(groupSecrets([]int{0, 1}), 1, "A2;")
	for _, c := range []struct {
		init string
		size int
		ok   bool
	}{{"A10;", 292, true}, {"nA10;", 292, false}, {"nA10;", 291, true}, {"A2;", 292, true}, {"nA2;", 292, true}, {"nnA2;", 292, false}} {
		m := turned(group[0], func(m *impl.MemMember) { m.Init = c.init })
		told := toldIn(m, 1, nameOfSize(c.size))
		if c.ok {
			hears(t, "just so long", m, told)
		} else {
			stays(t, "just too long", m, told)
		}
	}
}

// In which order its secrets are, they stay; and those told now are behind them, from below.
func TestWhatStaysIsInOrder(t *testing.T) {
	r := rand.New(rand.NewSource(62))
	mixed := 0
	for _, s := range someSent() {
		for _, m := range s.staying() {
			m = turned(m, func(m *impl.MemMember) {
				r.Shuffle(len(m.Own), func(i, j int) { m.Own[i], m.Own[j] = m.Own[j], m.Own[i] })
			})
			got := hears(t, "in any order", m, s.c)
			if len(got.Own) > 3 && got.Own[0].Node < got.Own[1].Node {
				mixed++
			}
		}
	}
	if mixed < 50 {
		t.Fatalf("only %d had another order", mixed)
	}
}

// Whatever is turned of a commit, or of who hears it: by the words of the document alone.
func TestHowOneHears(t *testing.T) {
	r := rand.New(rand.NewSource(63))
	sent := someSent()
	heard, stayed, nothing := 0, 0, 0
	for range 60000 {
		s := sent[r.Intn(len(sent))]
		m, c := copyOf(s.group[r.Intn(len(s.group))]), copyOfCommit(s.c)
		for range r.Intn(3) {
			turnAny(r, &c, sent[r.Intn(len(sent))].c)
		}
		if r.Intn(8) == 0 {
			m.Who = r.Intn(9)
		}
		if r.Intn(8) == 0 {
			m.Epoch = 10 + r.Intn(4)
		}
		got, ok := impl.MemHear(m, c)
		want, may := plainlyHear(m, c)
		if ok != may || !sameMember(got, want) {
			t.Fatalf("%+v and %v, not %+v and %v, of %+v and %+v", got, ok, want, may, m, c)
		}
		if ok && !impl.MemOk(got) {
			t.Fatalf("%+v is not ok, of %+v and %+v", got, m, c)
		}
		switch {
		case ok:
			heard++
		case got.In:
			stayed++
		default:
			nothing++
		}
	}
	if heard < 5000 || stayed < 5000 || nothing < 5000 {
		t.Fatal(heard, stayed, nothing)
	}
}

// turnAny turns one thing of a commit, perhaps to what another one has.
func turnAny(r *rand.Rand, c *impl.CmtCommit, other impl.CmtCommit) {
	texts := []string{"", "x", "A1;", "A2;", "kA1;", "kA2;", "nA1;", "A77;", "B77;", "nA77;", "nnC77;", "k" + comesLeaf, "k" + comesKey}
	text := texts[r.Intn(len(texts))]
	switch r.Intn(14) {
	case 0:
		c.Sender = r.Intn(10) - 1
	case 1:
		c.Tag = other.Tag
	case 2:
		c.Name = text
	case 3:
		c.Add = r.Intn(10) - 1
	case 4:
		c.Remove = r.Intn(10) - 1
	case 5:
		c.Leaf = text
	case 6:
		c.Keys = slices.Clone(other.Keys)
	case 7:
		c.Keys[r.Intn(len(c.Keys))] = text
	case 8:
		c.Boxes = slices.Clone(other.Boxes)
	case 9:
		if len(c.Boxes) > 0 {
			c.Boxes[r.Intn(len(c.Boxes))].Secret = text
		}
	case 10:
		if len(c.Boxes) > 0 {
			c.Boxes[r.Intn(len(c.Boxes))].Key = text
		}
	case 11:
		c.Welcome = other.Welcome
	case 12:
		c.Welcome.Secret.Secret = text
	case 13:
		c.Welcome.Init.Key = text
	}
}
