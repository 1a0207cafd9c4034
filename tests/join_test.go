package tests

import (
	"math/rand"
	"slices"
	"strings"
	"testing"

	"loop.example/keyward/impl"
)

// comes is who comes by a commit as it is then; the test fails if it does not, or not as the document says.
func comes(t *testing.T, what string, who int, leaf, key string, c impl.CmtCommit) impl.MemMember {
	t.Helper()
	got, ok := impl.MemJoin(who, leaf, key, c)
	if want, may := plainlyJoin(who, leaf, key, c); !ok || !may || !sameMember(got, want) {
		t.Fatalf("%s: %+v and %v, not %+v and %v, of %d, %.20q, %.20q and %+v", what, got, ok, want, may, who, leaf, key, c)
	}
	return got
}

// staysOut fails unless nothing, and false, comes of a commit.
func staysOut(t *testing.T, what string, who int, leaf, key string, c impl.CmtCommit) {
	t.Helper()
	if got, ok := impl.MemJoin(who, leaf, key, c); ok || !sameMember(got, impl.MemMember{}) {
		t.Fatalf("%s: %+v and %v, of %d, %.20q, %.20q and %+v", what, got, ok, who, leaf, key, c)
	}
}

// Promise 3: who comes is like who sent it, and those who heard it.
func TestWhoComesIsLikeWhoSent(t *testing.T) {
	came := 0
	for _, s := range someSent() {
		if s.ask.add < 0 {
			continue
		}
		came++
		got := comes(t, "one", s.ask.add, comesLeaf, comesKey, s.c)
		if !got.In || !impl.MemOk(got) || got.Init != s.next.Init || got.Epoch != s.next.Epoch || got.Tag != s.next.Tag || !slices.Equal(got.Tree.Keys, s.next.Tree.Keys) {
			t.Fatalf("%+v is not like %+v", got, s.next)
		}
		meet := plainlyMeets(s.ask.add, s.c.Sender)
		if len(got.Own) != 1+len(plainlyUpward(meet)) || got.Own[0] != (impl.MemOwn{Node: ownOf[s.ask.add], Secret: comesLeaf}) {
			t.Fatalf("%+v, of %+v", got, s.c)
		}
		for _, own := range got.Own[1:] {
			if !liesFrom(meet, own.Node) || !slices.Contains(s.next.Own, own) {
				t.Fatalf("%+v is not what who sent it has: %+v", own, s.next)
			}
		}
		stays(t, "by which it came", got, s.c)
	}
	if came < 800 {
		t.Fatalf("only %d came", came)
	}
}

// Wrong inputs: somebody else, nobody, and other secrets.
func TestWhoDoesNotCome(t *testing.T) {
	for _, s := range fewSent() {
		for who := range 8 {
			if who != s.ask.add {
				staysOut(t, "somebody else", who, comesLeaf, comesKey, s.c)
			}
		}
		for _, who := range outOf(0, impl.SecMany-1) {
			staysOut(t, "nobody", who, comesLeaf, comesKey, s.c)
			staysOut(t, "nobody", who, "", "", s.c)
		}
		staysOut(t, "without secrets", s.ask.add, "", "", s.c)
		if s.ask.add < 0 {
			continue
		}
		for _, no := range []string{"E99;", "n" + comesLeaf, "k" + comesLeaf, comesKey, "x", ""} {
			staysOut(t, "another secret of its place", s.ask.add, no, comesKey, s.c)
		}
		for _, no := range []string{"E97;", "n" + comesKey, "k" + comesKey, comesLeaf, "x", ""} {
			staysOut(t, "another secret of its key", s.ask.add, comesLeaf, no, s.c)
		}
		staysOut(t, "both the other way", s.ask.add, comesKey, comesLeaf, s.c)
		for _, other := range []int{(s.ask.add + 1) % 8, (s.ask.add + 5) % 8} {
			if other != s.c.Sender {
				staysOut(t, "a commit that lets another one in", s.ask.add, comesLeaf, comesKey, turnedCommit(s.c, func(c *impl.CmtCommit) { c.Add = other }))
				// Its place has no key, or another one.
				staysOut(t, "another one's place", other, comesLeaf, comesKey, turnedCommit(s.c, func(c *impl.CmtCommit) { c.Add = other }))
			}
		}
	}
	sent, none := handSent()
	for _, no := range noNames() {
		staysOut(t, "no name", 4, no, comesKey, sent.c)
		staysOut(t, "no name", 4, comesLeaf, no, sent.c)
		staysOut(t, "no names", 4, no, no, sent.c)
	}
	for _, c := range wrongCommits(sent.c, none.c) {
		staysOut(t, "not ok", 4, comesLeaf, comesKey, c)
		staysOut(t, "not ok", -1, "", "", c)
		staysOut(t, "not ok", c.Add, comesLeaf, comesKey, c)
	}
	staysOut(t, "nobody comes", -1, "", "", none.c)
	staysOut(t, "nobody comes", 4, comesLeaf, comesKey, none.c)
	staysOut(t, "nothing", 0, "A1;", "A2;", impl.CmtCommit{})
}

// Wrong inputs: what comes of it is not ok: a key at its place, or from where both meet up, that is not that of its secret; or one between, of which it has none.
func TestWhoseKeysAreOthersDoesNotCome(t *testing.T) {
	for _, s := range fewSent() {
		if s.ask.add < 0 {
			continue
		}
		up := plainlyUpward(ownOf[s.ask.add])
		for p, key := range s.c.Keys {
			for _, other := range []string{"", "kH95;", s.c.Leaf} {
				if other == key {
					continue
				}
				c := turnedCommit(s.c, func(c *impl.CmtCommit) { c.Keys[p] = other })
				if slices.Contains(up, p) {
					staysOut(t, "another key of its own", s.ask.add, comesLeaf, comesKey, c)
				} else {
					comes(t, "another key of another one's", s.ask.add, comesLeaf, comesKey, c)
				}
			}
		}
		for _, no := range []string{"H95;", "n" + s.c.Welcome.Secret.Secret, comesLeaf} {
			staysOut(t, "another secret told", s.ask.add, comesLeaf, comesKey, turnedCommit(s.c, func(c *impl.CmtCommit) { c.Welcome.Secret.Secret = no }))
		}
		for _, init := range []string{"H95;", nameOfSize(300), comesLeaf} {
			c := turnedCommit(s.c, func(c *impl.CmtCommit) { c.Welcome.Init.Secret = init })
			if got := comes(t, "whatever the group has", s.ask.add, comesLeaf, comesKey, c); got.Init != init {
				t.Fatal(got.Init)
			}
		}
		comes(t, "without boxes", s.ask.add, comesLeaf, comesKey, turnedCommit(s.c, func(c *impl.CmtCommit) { c.Boxes = nil }))
	}
}

// The edges: the epoch is one more than there are names in Tag, up to the last one.
func TestTheEpochOfWhoComes(t *testing.T) {
	sent, _ := handSent()
	for _, c := range []struct {
		tag   string
		epoch int
	}{
		{"", 1}, {"A1;", 2}, {"A1;B2;", 3}, {"A1;B22;C3;", 4},
		{strings.Join(manySecrets(10), ""), 11}, {strings.Join(manySecrets(11), ""), 12}, {strings.Join(manySecrets(12), ""), 0}, {strings.Join(manySecrets(60), ""), 0},
		{"A", 1}, {"A1", 1}, {"A1;B2", 2}, {";", 2}, {";;", 3}, {"x;\xff", 2}, {strings.Repeat("x", 296), 1}, {strings.Repeat(";", 11), 12}, {strings.Repeat(";", 12), 0},
	} {
		commit := turnedCommit(sent.c, func(x *impl.CmtCommit) { x.Tag = c.tag })
		if c.epoch == 0 {
			staysOut(t, "behind the last", 4, comesLeaf, comesKey, commit)
		} else if got := comes(t, "up to the last", 4, comesLeaf, comesKey, commit); got.Epoch != c.epoch || got.Tag != c.tag+"C77;" {
			t.Errorf("%+v, behind %.40q", got, c.tag)
		}
	}
	for size := 290; size <= 300; size++ {
		commit := turnedCommit(sent.c, func(x *impl.CmtCommit) { x.Tag = strings.Repeat("x", size) })
		if size <= 296 {
			comes(t, "just so long", 4, comesLeaf, comesKey, commit)
		} else {
			staysOut(t, "just too long", 4, comesLeaf, comesKey, commit)
		}
	}
}

// welcomed is a commit by hand, by which one comes who is told a secret; there is nobody else.
func welcomed(who, sender int, leaf, key, secret string) impl.CmtCommit {
	c := impl.CmtCommit{Sender: sender, Name: impl.MakNew(sender, 77), Add: who, Remove: -1, Leaf: "k" + leaf, Keys: noKeys(), Welcome: welcomeOf("k"+key, "A90;", secret)}
	c.Keys[ownOf[who]] = "k" + leaf
	for up, p := range plainlyUpward(plainlyMeets(who, sender)) {
		c.Keys[p] = "k" + strings.Repeat("n", up) + secret
	}
	return c
}

// The edges: Welcome's Secret of just SecLong - 8 bytes, and of one more, though it would still make names.
func TestJustSoLongSecretsAreToldToWhoComes(t *testing.T) {
	for who := range 8 {
		for sender := range 8 {
			if who == sender {
				continue
			}
			for _, size := range []int{3, 291, 292} {
				comes(t, "just so long", who, comesLeaf, comesKey, welcomed(who, sender, comesLeaf, comesKey, nameOfSize(size)))
			}
			for _, size := range []int{293, 294, 295} {
				c := welcomed(who, sender, comesLeaf, comesKey, nameOfSize(size))
				if !impl.CmtOk(c) {
					t.Fatalf("%+v is not ok", c)
				}
				staysOut(t, "one more", who, comesLeaf, comesKey, c)
			}
			staysOut(t, "too long for a key above", who, comesLeaf, comesKey, turnedCommit(welcomed(who, sender, comesLeaf, comesKey, "A1;"), func(c *impl.CmtCommit) { c.Welcome.Secret.Secret = nameOfSize(300) }))
			// The secret of its own place, and the other one, may be as long as their keys may be.
			comes(t, "long ones of its own", who, nameOfSize(299), nameOfSize(298), welcomed(who, sender, nameOfSize(299), nameOfSize(298), "A1;"))
			staysOut(t, "a longer one of its own", who, nameOfSize(300), comesKey, turnedCommit(welcomed(who, sender, comesLeaf, comesKey, "A1;"), func(c *impl.CmtCommit) { c.Leaf = "" }))
		}
	}
}

// Whatever is turned of a commit, or of who comes: by the words of the document alone.
func TestHowOneComes(t *testing.T) {
	r := rand.New(rand.NewSource(65))
	sent := slices.DeleteFunc(someSent(), func(s sentCommit) bool { return s.ask.add < 0 })
	came := 0
	for range 40000 {
		c := copyOfCommit(sent[r.Intn(len(sent))].c)
		who, leaf, key := c.Add, comesLeaf, comesKey
		for range r.Intn(3) {
			turnAny(r, &c, sent[r.Intn(len(sent))].c)
		}
		switch r.Intn(12) {
		case 0:
			who = r.Intn(10) - 1
		case 1:
			leaf = []string{"", "A1;", comesKey}[r.Intn(3)]
		case 2:
			key = []string{"", "A1;", comesLeaf}[r.Intn(3)]
		}
		got, ok := impl.MemJoin(who, leaf, key, c)
		want, may := plainlyJoin(who, leaf, key, c)
		if ok != may || !sameMember(got, want) {
			t.Fatalf("%+v and %v, not %+v and %v, of %d, %q, %q and %+v", got, ok, want, may, who, leaf, key, c)
		}
		if ok {
			came++
		}
	}
	if came < 8000 || came > 32000 {
		t.Fatalf("%d came", came)
	}
}
