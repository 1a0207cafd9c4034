package tests

import (
	"math/rand"
	"slices"
	"strings"

	"loop.example/keyward/impl"
)

// The two secrets of who comes, and a secret made anew that no group has yet has number 77.
const (
	comesLeaf = "E98;"
	comesKey  = "nE97;"
)

// sentCommit is a commit of one in a group, who sent it as it is then, and all who were in ahead of it.
type sentCommit struct {
	ask   commitAsk
	group []impl.MemMember
	next  impl.MemMember
	c     impl.CmtCommit
}

// hearers is all who were in, but for who sent it.
func (s sentCommit) hearers() []impl.MemMember {
	return slices.DeleteFunc(slices.Clone(s.group), func(m impl.MemMember) bool { return m.Who == s.ask.m.Who })
}

// staying is all who hear it, and are not let go.
func (s sentCommit) staying() []impl.MemMember {
	return slices.DeleteFunc(s.hearers(), func(m impl.MemMember) bool { return m.Who == s.ask.remove })
}

// groupOf is all in a group, behind the same commits.
func groupOf(secrets []string, epoch int, init string) []impl.MemMember {
	all := allIn(secrets)
	for i := range all {
		all[i].Epoch, all[i].Init, all[i].Tag = epoch, init, strings.Join(manySecrets(epoch), "")
	}
	return all
}

// someGroups is groups: alone, of all, with places without keys beside and above, and with keys below which nobody is.
func someGroups() [][]impl.MemMember {
	r := rand.New(rand.NewSource(61))
	all := [][]impl.MemMember{
		groupOf(groupSecrets([]int{3}), 0, "D2;"),
		groupOf(groupSecrets([]int{0, 1, 2, 3, 4, 5, 6, 7}), 11, "eA2;nnnnB3;"),
		groupOf(groupSecrets([]int{7, 2, 6, 0, 1, 5, 4, 3}), 7, "A2;"),
		groupOf(shapeSecrets(1<<15-1), 3, "kA2;"),
		groupOf(shapeSecrets(1<<15-1<<7), 0, "A2;"),
		groupOf(shapeSecrets(1<<7|1<<8), 1, "A2;"),
		groupOf(shapeSecrets(1<<7|1<<14), 1, "A2;"),
	}
	for range 8 {
		order := make([]int, 2+r.Intn(12))
		for i := range order {
			order[i] = r.Intn(8)
		}
		all = append(all, groupOf(groupSecrets(order), r.Intn(12), writtenName(r, r.Intn(5))))
		all = append(all, groupOf(shapeSecrets(r.Intn(1<<15)), r.Intn(12), writtenName(r, r.Intn(5))))
	}
	return all
}

// someSent is, of each one of some groups, its commits with each who may come, and each who may go.
func someSent() []sentCommit {
	var all []sentCommit
	for _, group := range someGroups() {
		for _, m := range group {
			for add := -1; add < 8; add++ {
				for remove := -1; remove < 8; remove++ {
					s := sentCommit{group: group, ask: commitAsk{m: m, fresh: impl.MakNew(m.Who, 77), add: add, remove: remove}}
					if add >= 0 {
						s.ask.leaf, s.ask.key = "k"+comesLeaf, "k"+comesKey
					}
					if plainlyMay(s.ask) {
						s.next, s.c = plainlyCommit(s.ask)
						all = append(all, s)
					}
				}
			}
		}
	}
	return all
}

// fewSent is each fifth of someSent, for tests that turn each of them in many ways.
func fewSent() []sentCommit {
	var few []sentCommit
	for i, s := range someSent() {
		if i%5 == 0 {
			few = append(few, s)
		}
	}
	return few
}

// copyOfCommit is a commit, no list of which is shared.
func copyOfCommit(c impl.CmtCommit) impl.CmtCommit {
	c.Keys = slices.Clone(c.Keys)
	c.Boxes = slices.Clone(c.Boxes)
	return c
}

// turnedCommit is a commit with something of it turned.
func turnedCommit(c impl.CmtCommit, by func(c *impl.CmtCommit)) impl.CmtCommit {
	other := copyOfCommit(c)
	by(&other)
	return other
}

// plainlyTold is whether a box has names.
func plainlyTold(b impl.KnwBox) bool {
	return plainlyName(b.Key) && plainlyName(b.Secret)
}

// plainlyCommitOk is whether a commit is ok, by the words of the document.
func plainlyCommitOk(c impl.CmtCommit) bool {
	if c.Sender < 0 || c.Sender > 7 || !plainlyName(c.Name) || !strings.Contains("ABCDEFGH", c.Name[:1]) || len(c.Tag+c.Name) > 300 {
		return false
	}
	for _, who := range []int{c.Add, c.Remove} {
		if who < -1 || who > 7 || who == c.Sender {
			return false
		}
	}
	if len(c.Keys) != 15 || slices.ContainsFunc(c.Keys, func(key string) bool { return key != "" && !plainlyKey(key) }) {
		return false
	}
	if len(c.Boxes) > 20 || slices.ContainsFunc(c.Boxes, func(b impl.KnwBox) bool { return !plainlyTold(b) }) {
		return false
	}
	w := c.Welcome
	if c.Add == -1 {
		return c.Leaf == "" && w.Key == "" && w.Init.Key == "" && w.Init.Secret == "" && w.Secret.Key == "" && w.Secret.Secret == ""
	}
	if !plainlyKey(c.Leaf) || !plainlyKey(w.Key) || c.Leaf == w.Key {
		return false
	}
	return w.Init.Key == w.Key && w.Secret.Key == w.Key && plainlyTold(w.Init) && plainlyTold(w.Secret)
}

// plainlyOnItsWay is whether a commit goes on from where one is, by the words of the document; both are ok.
func plainlyOnItsWay(m impl.MemMember, c impl.CmtCommit) bool {
	if !m.In || c.Tag != m.Tag || m.Epoch >= 12 || c.Sender == m.Who {
		return false
	}
	in := plainlyIn(m.Tree.Keys)
	if !slices.Contains(in, c.Sender) || c.Remove != -1 && !slices.Contains(in, c.Remove) || slices.Contains(in, c.Add) && c.Add != c.Remove {
		return false
	}
	base := plainlyBase(commitAsk{m: m, add: c.Add, remove: c.Remove, leaf: c.Leaf})
	for p, key := range c.Keys {
		if !liesFrom(ownOf[c.Sender], p) && key != base[p] {
			return false
		}
	}
	return true
}

// plainlyHear is one behind a commit, by the words of the document.
func plainlyHear(m impl.MemMember, c impl.CmtCommit) (impl.MemMember, bool) {
	if !plainlyOk(m) || !plainlyCommitOk(c) {
		return impl.MemMember{}, false
	}
	if !plainlyOnItsWay(m, c) {
		return m, false
	}
	if c.Remove == m.Who {
		return impl.MemMember{}, true
	}
	first := slices.IndexFunc(c.Boxes, func(b impl.KnwBox) bool {
		return slices.ContainsFunc(m.Own, func(own impl.MemOwn) bool { return "k"+own.Secret == b.Key })
	})
	if first < 0 || len(c.Boxes[first].Secret) > 292 {
		return m, false
	}
	next := impl.MemMember{In: true, Who: m.Who, Tree: impl.TreTree{Keys: c.Keys}, Epoch: m.Epoch + 1, Tag: m.Tag + c.Name}
	meet := plainlyMeets(m.Who, c.Sender)
	for _, own := range m.Own {
		if !liesFrom(meet, own.Node) && c.Keys[own.Node] == m.Tree.Keys[own.Node] {
			next.Own = append(next.Own, own)
		}
	}
	secret := c.Boxes[first].Secret
	for _, p := range plainlyUpward(meet) {
		if c.Keys[p] != "k"+secret {
			return m, false
		}
		next.Own = append(next.Own, impl.MemOwn{Node: p, Secret: secret})
		secret = "n" + secret
	}
	next.Init = "e" + m.Init + secret
	if len(next.Init) > 300 {
		return m, false
	}
	return next, true
}

// plainlyJoin is one who comes by a commit, by the words of the document.
func plainlyJoin(who int, leaf, key string, c impl.CmtCommit) (impl.MemMember, bool) {
	if !plainlyCommitOk(c) || c.Add != who || who < 0 || "k"+leaf != c.Leaf || "k"+key != c.Welcome.Key || len(c.Welcome.Secret.Secret) > 292 {
		return impl.MemMember{}, false
	}
	m := impl.MemMember{In: true, Who: who, Tree: impl.TreTree{Keys: c.Keys}, Init: c.Welcome.Init.Secret, Tag: c.Tag + c.Name}
	m.Epoch = len(strings.Split(c.Tag, ";"))
	m.Own = []impl.MemOwn{{Node: ownOf[who], Secret: leaf}}
	for up, p := range plainlyUpward(plainlyMeets(who, c.Sender)) {
		m.Own = append(m.Own, impl.MemOwn{Node: p, Secret: strings.Repeat("n", up) + c.Welcome.Secret.Secret})
	}
	if !plainlyOk(m) {
		return impl.MemMember{}, false
	}
	return m, true
}

// toldIn is the commit of one to another one that tells it a secret, by hand: all keys are those of the base, but for the sender's, which are those of the secret from where both meet up.
func toldIn(m impl.MemMember, sender int, secret string) impl.CmtCommit {
	c := impl.CmtCommit{Sender: sender, Tag: m.Tag, Name: impl.MakNew(sender, 77), Add: -1, Remove: -1, Keys: slices.Clone(m.Tree.Keys)}
	for up, p := range plainlyUpward(plainlyMeets(m.Who, sender)) {
		c.Keys[p] = "k" + strings.Repeat("n", up) + secret
	}
	c.Boxes = []impl.KnwBox{{Key: "k" + m.Own[0].Secret, Secret: secret}}
	return c
}

// wrongCommits is commits that are not ok, each nearly as one that is, of which the first lets one in, and one go, and the second does neither.
func wrongCommits(comes, none impl.CmtCommit) []impl.CmtCommit {
	var all []impl.CmtCommit
	both := func(by func(c *impl.CmtCommit)) {
		all = append(all, turnedCommit(comes, by), turnedCommit(none, by))
	}
	for _, who := range outOf(0, impl.SecMany-1) {
		both(func(c *impl.CmtCommit) { c.Sender = who })
		if who != -1 {
			both(func(c *impl.CmtCommit) { c.Add = who })
			both(func(c *impl.CmtCommit) { c.Remove = who })
		}
	}
	both(func(c *impl.CmtCommit) { c.Add = c.Sender })
	both(func(c *impl.CmtCommit) { c.Remove = c.Sender })
	for _, no := range append(noNames(), "nA1;", "kA1;", "eA1;B1;", "mAA1;", "r1A1;") {
		both(func(c *impl.CmtCommit) { c.Name = no })
	}
	both(func(c *impl.CmtCommit) { c.Tag = strings.Repeat("A1;", 100)[:301-len(c.Name)] })
	both(func(c *impl.CmtCommit) { c.Tag = strings.Repeat("A1;", 1000) })
	for _, tree := range wrongTrees() {
		both(func(c *impl.CmtCommit) { c.Keys = tree.Keys })
	}
	for _, no := range noNames() {
		both(func(c *impl.CmtCommit) { c.Boxes = append(c.Boxes, impl.KnwBox{Key: no, Secret: "A1;"}) })
		both(func(c *impl.CmtCommit) { c.Boxes = append(c.Boxes, impl.KnwBox{Key: "kA1;", Secret: no}) })
		both(func(c *impl.CmtCommit) { c.Boxes = slices.Insert(c.Boxes, 0, impl.KnwBox{Key: "kA1;", Secret: no}) })
	}
	for _, many := range []int{21, 22, 400, 5000} {
		both(func(c *impl.CmtCommit) { c.Boxes = slices.Repeat([]impl.KnwBox{{Key: "kA1;", Secret: "B1;"}}, many) })
	}
	return append(all, wrongWelcomes(comes, none)...)
}

// wrongWelcomes is commits that do not tell who comes what it needs, or tell something though nobody comes.
func wrongWelcomes(comes, none impl.CmtCommit) []impl.CmtCommit {
	var all []impl.CmtCommit
	of := func(c impl.CmtCommit, by func(c *impl.CmtCommit)) {
		all = append(all, turnedCommit(c, by))
	}
	shut := func(c *impl.CmtCommit, key string) {
		c.Welcome.Key, c.Welcome.Init.Key, c.Welcome.Secret.Key = key, key, key
	}
	of(comes, func(c *impl.CmtCommit) { c.Add = -1 })
	of(comes, func(c *impl.CmtCommit) { shut(c, c.Leaf) })
	of(comes, func(c *impl.CmtCommit) { c.Leaf = c.Welcome.Key })
	of(comes, func(c *impl.CmtCommit) { c.Welcome = impl.CmtWelcome{} })
	of(comes, func(c *impl.CmtCommit) { c.Welcome.Init = impl.KnwBox{} })
	of(comes, func(c *impl.CmtCommit) { c.Welcome.Secret = impl.KnwBox{} })
	of(comes, func(c *impl.CmtCommit) { c.Welcome.Key = "kH9;" })
	of(comes, func(c *impl.CmtCommit) { c.Welcome.Init.Key = "kH9;" })
	of(comes, func(c *impl.CmtCommit) { c.Welcome.Secret.Key = "kH9;" })
	of(comes, func(c *impl.CmtCommit) { c.Welcome.Init.Key = c.Leaf })
	of(comes, func(c *impl.CmtCommit) { c.Welcome.Secret.Key = c.Leaf })
	for _, no := range append(noKeyTexts(), "") {
		of(comes, func(c *impl.CmtCommit) { c.Leaf = no })
		of(comes, func(c *impl.CmtCommit) { shut(c, no) })
	}
	for _, no := range noNames() {
		of(comes, func(c *impl.CmtCommit) { c.Welcome.Init.Secret = no })
		of(comes, func(c *impl.CmtCommit) { c.Welcome.Secret.Secret = no })
	}
	of(none, func(c *impl.CmtCommit) { c.Add = comes.Add })
	for _, s := range []string{"x", "A1;", "kA1;"} {
		of(none, func(c *impl.CmtCommit) { c.Leaf = s })
		of(none, func(c *impl.CmtCommit) { c.Welcome.Key = s })
		of(none, func(c *impl.CmtCommit) { c.Welcome.Init.Key = s })
		of(none, func(c *impl.CmtCommit) { c.Welcome.Init.Secret = s })
		of(none, func(c *impl.CmtCommit) { c.Welcome.Secret.Key = s })
		of(none, func(c *impl.CmtCommit) { c.Welcome.Secret.Secret = s })
	}
	of(none, func(c *impl.CmtCommit) { c.Leaf, c.Welcome = comes.Leaf, comes.Welcome })
	return all
}

// handSent is one commit that lets one in and another one go, and one that does neither, of one group of five: A, B, D, C and F.
func handSent() (comes, none sentCommit) {
	group := groupOf(groupSecrets([]int{0, 1, 3, 2, 5}), 4, "A90;")
	for i, s := range []*sentCommit{&comes, &none} {
		s.group, s.ask = group, commitAsk{m: group[2], fresh: "C77;", add: -1, remove: -1}
		if i == 0 {
			s.ask.add, s.ask.remove, s.ask.leaf, s.ask.key = 4, 5, "k"+comesLeaf, "k"+comesKey
		}
		s.next, s.c = plainlyCommit(s.ask)
	}
	return comes, none
}
