package tests

import (
	"math/rand"
	"slices"
	"strings"
	"testing"

	"loop.example/keyward/impl"
)

// together is a group of which each hears each commit; secrets that were made are counted.
type together struct {
	t    *testing.T
	made [8]int
	in   map[int]impl.MemMember
}

func beginTogether(t *testing.T, who int) *together {
	g := &together{t: t, in: map[int]impl.MemMember{}}
	g.in[who] = impl.MemFirst(who, g.fresh(who), g.fresh(who))
	return g
}

func (g *together) fresh(who int) string {
	g.made[who]++
	return impl.MakNew(who, g.made[who])
}

// others is all who are in but one, rising.
func (g *together) others(who int) []int {
	var all []int
	for other := range 8 {
		if g.in[other].In && other != who {
			all = append(all, other)
		}
	}
	return all
}

// goOn lets one go on, and all others hear, and come; it fails if one does not.
func (g *together) goOn(who, add, remove int) impl.CmtCommit {
	g.t.Helper()
	leaf, key, leafKey, keyKey := "", "", "", ""
	if add >= 0 {
		leaf, key = g.fresh(add), g.fresh(add)
		leafKey, keyKey = "k"+leaf, "k"+key
	}
	next, c, ok := impl.MemCommit(g.in[who], g.fresh(who), add, remove, leafKey, keyKey)
	if !ok || !impl.CmtOk(c) {
		g.t.Fatalf("%d does not go on with %d and without %d: %+v", who, add, remove, c)
	}
	for _, other := range g.others(who) {
		got := hears(g.t, "one of all", g.in[other], c)
		if got.In == (other == remove) {
			g.t.Fatalf("%+v, of %d, behind %+v", got, other, c)
		}
		g.in[other] = got
	}
	g.in[who] = next
	if add >= 0 {
		g.in[add] = comes(g.t, "one of all", add, leaf, key, c)
	}
	for _, other := range g.others(-1) {
		m := g.in[other]
		if !impl.MemOk(m) || m.Who != other || m.Init != next.Init || m.Tag != next.Tag || m.Epoch != next.Epoch || !slices.Equal(m.Tree.Keys, next.Tree.Keys) {
			g.t.Fatalf("%+v is not like %+v, behind %+v", m, next, c)
		}
		stays(g.t, "once more", m, c)
	}
	if !slices.Equal(g.others(-1), impl.TreIn(next.Tree)) {
		g.t.Fatalf("in are %v, not %v", g.others(-1), impl.TreIn(next.Tree))
	}
	return c
}

// Promises 2, 3 and 29: groups grow to all, whoever begins, whoever lets whom in, and hear one behind the other up to the last epoch.
func TestAllHearOneBehindTheOther(t *testing.T) {
	r := rand.New(rand.NewSource(66))
	for range 60 {
		order := r.Perm(8)
		g := beginTogether(t, order[0])
		for i, who := range order[1:] {
			g.goOn(order[r.Intn(i+1)], who, -1)
		}
		if len(g.others(-1)) != impl.SecMany {
			t.Fatal(g.others(-1))
		}
		for range impl.MemEpochs - 7 {
			g.goOn(r.Intn(8), -1, -1)
		}
		if m := g.in[r.Intn(8)]; m.Epoch != impl.MemEpochs || strings.Count(m.Tag, ";") != impl.MemEpochs {
			t.Fatalf("%+v", m)
		}
	}
}

// Promises 2, 3 and 29: whoever comes and goes, at once or not, to the same place or another one.
func TestAllHearWhoeverComesAndGoes(t *testing.T) {
	r := rand.New(rand.NewSource(67))
	same, other := 0, 0
	for range 400 {
		g := beginTogether(t, r.Intn(8))
		for range impl.MemEpochs {
			in := g.others(-1)
			who := in[r.Intn(len(in))]
			add, remove := -1, -1
			if rest := g.others(who); len(rest) > 0 && r.Intn(3) == 0 {
				remove = rest[r.Intn(len(rest))]
			}
			if one := r.Intn(8); r.Intn(3) > 0 && !slices.Contains(in, one) {
				add = one
			} else if r.Intn(3) == 0 {
				add = remove
			}
			if add >= 0 && remove >= 0 && add == remove {
				same++
			} else if add >= 0 && remove >= 0 {
				other++
			}
			g.goOn(who, add, remove)
		}
	}
	if same < 50 || other < 100 {
		t.Fatal(same, other)
	}
}

// Promises 3 and 89: a group by hand, as its members see it.
func TestHearingByHand(t *testing.T) {
	g := beginTogether(t, 0)
	g.goOn(0, 1, -1) // A3; lets in B, with B1; and B2;
	g.goOn(0, 7, -1) // A4; lets in H
	g.goOn(1, -1, -1)
	look := func(what string, who int, own string) {
		t.Helper()
		var words []string
		for _, o := range g.in[who].Own {
			words = append(words, string(rune('0'+o.Node/10))+string(rune('0'+o.Node%10))+":"+o.Secret)
		}
		if got := strings.Join(words, " "); got != own {
			t.Fatalf("%s: %s, not %s", what, got, own)
		}
	}
	look("B went on", 1, "08:B3; 03:nB3; 01:nnB3; 00:nnnB3;")
	look("A meets it low", 0, "07:A4; 03:nB3; 01:nnB3; 00:nnnB3;")
	look("H meets it at the top", 7, "14:H1; 00:nnnB3;")
	g.goOn(7, 5, -1)
	look("H went on", 7, "14:H3; 06:nH3; 02:nnH3; 00:nnnH3;")
	look("F came", 5, "12:F1; 02:nnH3; 00:nnnH3;")
	look("B keeps what is below", 1, "08:B3; 03:nB3; 01:nnB3; 00:nnnH3;")
	g.goOn(7, -1, 0)
	look("what was above who went is gone", 1, "08:B3; 00:nnnH4;")
	look("who went has nothing", 0, "")
	g.goOn(5, 0, -1)
	look("A came again", 0, "07:A5; 00:nnnF3;")
	look("B keeps its own", 1, "08:B3; 00:nnnF3;")
	look("H keeps what is below", 7, "14:H4; 06:nH4; 02:nnF3; 00:nnnF3;")
	g.goOn(1, 7, 7)
	look("one came in its own place", 7, "14:H5; 00:nnnB4;")
	look("F lost what was above it", 5, "12:F3; 05:nF3; 00:nnnB4;")
	look("A is told what lies above both", 0, "07:A5; 03:nB4; 01:nnB4; 00:nnnB4;")
	if m := g.in[0]; m.Init != "eeeeeeeA2;nnnnA3;nnnnA4;nnnnB3;nnnnH3;nnnnH4;nnnnF3;nnnnB4;" || m.Tag != "A3;A4;B3;H3;H4;F3;B4;" || m.Epoch != 7 {
		t.Fatalf("%+v", m)
	}
}

// apartCommit is a commit in memory of its own, names and all, with something behind the end of each list.
func apartCommit(c impl.CmtCommit) impl.CmtCommit {
	boxes := make([]impl.KnwBox, len(c.Boxes), len(c.Boxes)+3)
	for i, b := range c.Boxes {
		boxes[i] = apartBox(b)
	}
	for i := range 3 {
		boxes[:len(c.Boxes)+3][len(c.Boxes)+i] = impl.KnwBox{Key: "behind", Secret: "behind"}
	}
	c.Keys, c.Boxes = apart(c.Keys), boxes
	c.Tag, c.Name, c.Leaf = strings.Clone(c.Tag), strings.Clone(c.Name), strings.Clone(c.Leaf)
	c.Welcome = impl.CmtWelcome{Key: strings.Clone(c.Welcome.Key), Init: apartBox(c.Welcome.Init), Secret: apartBox(c.Welcome.Secret)}
	return c
}

func apartBox(b impl.KnwBox) impl.KnwBox {
	return impl.KnwBox{Key: strings.Clone(b.Key), Secret: strings.Clone(b.Secret)}
}

// lookApart fails if an answer shares memory with what was given, or a list of it with another one; each list is written over.
func lookApart(t *testing.T, m impl.MemMember, given map[*byte]string) {
	t.Helper()
	shareNone(t, given, namesIn(m.Tree.Keys, nil, nil), namesIn(nil, nil, m.Own), namesIn([]string{m.Init}, nil, nil), namesIn([]string{m.Tag}, nil, nil))
	want := copyOf(m)
	turn(m.Own, impl.MemOwn{})
	want.Own = m.Own
	if !sameMember(m, want) {
		t.Fatalf("%+v turned, and was %+v", m, want)
	}
	turn(m.Tree.Keys, "turned")
}

// No call changes what is handed in, nor what lies behind its end; no answer shares memory with it, nor two lists of one answer with each other.
func TestWhoHearsAndWhatIsHeardStayAsTheyWere(t *testing.T) {
	for n, s := range someSent() {
		c := s.c
		switch n % 5 {
		case 1:
			c = turnedCommit(c, func(c *impl.CmtCommit) { c.Keys[n%15] = "kH95;" })
		case 2:
			c = turnedCommit(c, func(c *impl.CmtCommit) { c.Boxes = append(c.Boxes, impl.KnwBox{Key: "x"}) })
		}
		c = apartCommit(c)
		m := s.group[n%len(s.group)]
		if n%2 == 0 {
			// A text behind an empty one is new memory as well.
			m.Tag, c.Tag = "", ""
		}
		m = apartFrom(m)
		wasM, wasC := copyOf(m), copyOfCommit(c)
		wasM.Tree.Keys, wasM.Own = slices.Clone(m.Tree.Keys[:cap(m.Tree.Keys)]), slices.Clone(m.Own[:cap(m.Own)])
		wasC.Keys, wasC.Boxes = slices.Clone(c.Keys[:cap(c.Keys)]), slices.Clone(c.Boxes[:cap(c.Boxes)])
		leaf, key := strings.Clone(comesLeaf), strings.Clone(comesKey)
		texts := slices.Concat(m.Tree.Keys, c.Keys, []string{m.Init, m.Tag, c.Tag, c.Name, c.Leaf, c.Welcome.Key, leaf, key})
		given := namesIn(texts, append(slices.Clone(c.Boxes), c.Welcome.Init, c.Welcome.Secret), m.Own)
		impl.CmtOk(c)
		heard, _ := impl.MemHear(m, c)
		lookApart(t, heard, given)
		came, _ := impl.MemJoin(c.Add, leaf, key, c)
		lookApart(t, came, given)
		isM, isC := m, c
		isM.Tree.Keys, isM.Own = m.Tree.Keys[:cap(m.Tree.Keys)], m.Own[:cap(m.Own)]
		isC.Keys, isC.Boxes = c.Keys[:cap(c.Keys)], c.Boxes[:cap(c.Boxes)]
		if !sameMember(isM, wasM) || !sameCommit(isC, wasC) {
			t.Fatalf("%+v and %+v turned, and were %+v and %+v", isM, isC, wasM, wasC)
		}
	}
}
