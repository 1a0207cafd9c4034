package tests

import (
	"math/rand"
	"slices"
	"strings"

	"loop.example/keyward/impl"
)

// commitAsk is all that is handed to MemCommit.
type commitAsk struct {
	m      impl.MemMember
	fresh  string
	add    int
	remove int
	leaf   string
	key    string
}

// commits is MemCommit of all that is asked.
func (a commitAsk) commits() (impl.MemMember, impl.CmtCommit, bool) {
	return impl.MemCommit(a.m, a.fresh, a.add, a.remove, a.leaf, a.key)
}

// oneOf is one in a group, each place of which has the key of a secret, or none, if that is empty; it has those of its places, from below.
func oneOf(who int, secrets []string) impl.MemMember {
	m := impl.MemMember{In: true, Who: who, Tree: impl.TreTree{Keys: noKeys()}, Init: "A2;"}
	for p, s := range secrets {
		if s != "" {
			m.Tree.Keys[p] = "k" + s
		}
	}
	for _, p := range plainlyUpward(ownOf[who]) {
		if secrets[p] != "" {
			m.Own = append(m.Own, impl.MemOwn{Node: p, Secret: secrets[p]})
		}
	}
	return m
}

// groupSecrets is secrets of places as a group has them where some have set theirs, one behind the other; who comes once more, at an even place, is cleared there.
func groupSecrets(order []int) []string {
	secrets := noKeys()
	for i, fresh := range manySecrets(len(order)) {
		clear := i%2 == 0 && slices.Contains(order[:i], order[i])
		for up, p := range plainlyUpward(ownOf[order[i]]) {
			secrets[p] = strings.Repeat("n", up) + fresh
			if clear {
				secrets[p] = ""
			}
		}
	}
	return secrets
}

// shapeSecrets is a secret, each unlike, at each place whose bit is set.
func shapeSecrets(shape int) []string {
	secrets := noKeys()
	for p, fresh := range manySecrets(len(secrets)) {
		if shape>>p&1 == 1 {
			secrets[p] = fresh
		}
	}
	return secrets
}

// allIn is each who has a secret at its place, as one in the group of these.
func allIn(secrets []string) []impl.MemMember {
	var all []impl.MemMember
	for who, p := range ownOf {
		if secrets[p] != "" {
			all = append(all, oneOf(who, secrets))
		}
	}
	return all
}

// someMembers is ones that are ok, and in: alone, in groups that have grown to all, with places without keys beside and above, and with keys below which nobody is.
func someMembers() []impl.MemMember {
	r := rand.New(rand.NewSource(41))
	var all []impl.MemMember
	for who := range ownOf {
		all = append(all, allIn(groupSecrets([]int{who}))...)
		all = append(all, allIn(shapeSecrets(1<<ownOf[who]))...)
	}
	all = append(all, allIn(groupSecrets([]int{0, 1, 2, 3, 4, 5, 6, 7}))...)
	all = append(all, allIn(groupSecrets([]int{7, 2, 6, 0, 1, 5, 4, 3}))...)
	all = append(all, allIn(shapeSecrets(1<<15-1))...)
	all = append(all, allIn(shapeSecrets(1<<15-1<<7))...)
	for range 25 {
		order := make([]int, 1+r.Intn(14))
		for i := range order {
			order[i] = r.Intn(8)
		}
		all = append(all, allIn(groupSecrets(order))...)
		all = append(all, allIn(shapeSecrets(r.Intn(1<<15)))...)
	}
	for i := range all {
		all[i].Epoch = r.Intn(12)
		all[i].Tag = strings.Join(manySecrets(r.Intn(20)), "")
		all[i].Init = writtenName(r, r.Intn(5))
	}
	return all
}

// copyOf is one, no list of which is shared.
func copyOf(m impl.MemMember) impl.MemMember {
	m.Tree.Keys = slices.Clone(m.Tree.Keys)
	m.Own = slices.Clone(m.Own)
	return m
}

// turned is one with something of it turned.
func turned(m impl.MemMember, by func(m *impl.MemMember)) impl.MemMember {
	other := copyOf(m)
	by(&other)
	return other
}

func sameMember(a, b impl.MemMember) bool {
	return a.In == b.In && a.Who == b.Who && slices.Equal(a.Tree.Keys, b.Tree.Keys) && slices.Equal(a.Own, b.Own) &&
		a.Epoch == b.Epoch && a.Init == b.Init && a.Tag == b.Tag
}

func sameCommit(a, b impl.CmtCommit) bool {
	return a.Sender == b.Sender && a.Tag == b.Tag && a.Name == b.Name && a.Add == b.Add && a.Remove == b.Remove &&
		a.Leaf == b.Leaf && slices.Equal(a.Keys, b.Keys) && slices.Equal(a.Boxes, b.Boxes) && a.Welcome == b.Welcome
}

// isNothing is whether a MemCommit came to nothing, and false.
func isNothing(m impl.MemMember, c impl.CmtCommit, ok bool) bool {
	return !ok && sameMember(m, impl.MemMember{}) && sameCommit(c, impl.CmtCommit{})
}

// plainlyKey is whether a text is a name made as SecKey.
func plainlyKey(s string) bool {
	return plainlyName(s) && s[0] == 'k'
}

// plainlyOk is whether one is ok, by the words of the document.
func plainlyOk(m impl.MemMember) bool {
	if !m.In {
		return sameMember(m, impl.MemMember{})
	}
	if m.Who < 0 || m.Who > 7 || len(m.Tree.Keys) != 15 || m.Epoch < 0 || m.Epoch > 12 || !plainlyName(m.Init) || len(m.Tag) > 300 {
		return false
	}
	for _, key := range m.Tree.Keys {
		if key != "" && !plainlyKey(key) {
			return false
		}
	}
	if m.Tree.Keys[ownOf[m.Who]] == "" {
		return false
	}
	for node, key := range m.Tree.Keys {
		want := 0
		if key != "" && liesFrom(ownOf[m.Who], node) {
			want = 1
		}
		for _, own := range m.Own {
			if own.Node == node {
				want--
			}
			if own.Node == node && "k"+own.Secret != key {
				return false
			}
		}
		if want != 0 {
			return false
		}
	}
	return !slices.ContainsFunc(m.Own, func(own impl.MemOwn) bool { return own.Node < 0 || own.Node > 14 })
}

// plainlyMay is whether a commit may be, by the words of the document.
func plainlyMay(a commitAsk) bool {
	if !a.m.In || !plainlyOk(a.m) || a.m.Epoch >= 12 || len(a.m.Tag)+len(a.fresh) > 300 || len(a.m.Init) > 280 {
		return false
	}
	if !plainlyName(a.fresh) || a.fresh[0] < 'A' || a.fresh[0] > 'H' || a.add == a.m.Who || a.remove == a.m.Who {
		return false
	}
	in := plainlyIn(a.m.Tree.Keys)
	if a.remove != -1 && !slices.Contains(in, a.remove) {
		return false
	}
	if a.add == -1 {
		return a.leaf == "" && a.key == ""
	}
	if a.add < 0 || a.add > 7 || slices.Contains(in, a.add) && a.add != a.remove {
		return false
	}
	return plainlyKey(a.leaf) && plainlyKey(a.key) && a.leaf != a.key
}

// plainlyBase is the keys ahead of a commit's new ones.
func plainlyBase(a commitAsk) []string {
	base := a.m.Tree.Keys
	if a.remove >= 0 {
		base = plainlyClear(base, a.remove)
	}
	if a.add >= 0 {
		base = with(plainlyClear(base, a.add), ownOf[a.add], a.leaf)
	}
	return base
}

// plainlyMeets is the lowest place that is above both of two.
func plainlyMeets(one, other int) int {
	for _, p := range plainlyUpward(ownOf[one]) {
		if liesFrom(ownOf[other], p) {
			return p
		}
	}
	return -1
}

// plainlyCommit is who goes on, and its commit, of one that may, by the words of the document.
func plainlyCommit(a commitAsk) (impl.MemMember, impl.CmtCommit) {
	base, up := plainlyBase(a), plainlyUpward(ownOf[a.m.Who])
	next := impl.MemMember{In: true, Who: a.m.Who, Epoch: a.m.Epoch + 1, Tag: a.m.Tag + a.fresh, Init: "e" + a.m.Init + "nnnn" + a.fresh}
	next.Tree.Keys = plainlySet(base, a.m.Who, a.fresh)
	c := impl.CmtCommit{Sender: a.m.Who, Tag: a.m.Tag, Name: a.fresh, Add: a.add, Remove: a.remove, Leaf: a.leaf, Keys: next.Tree.Keys}
	for i, p := range up {
		secret := strings.Repeat("n", i) + a.fresh
		next.Own = append(next.Own, impl.MemOwn{Node: p, Secret: secret})
		if p == 0 {
			continue
		}
		for _, q := range plainlyCover(base, besideOf[p]) {
			if a.add < 0 || q != ownOf[a.add] {
				c.Boxes = append(c.Boxes, impl.KnwBox{Key: base[q], Secret: "n" + secret})
			}
		}
	}
	if a.add >= 0 {
		secret := strings.Repeat("n", slices.Index(up, plainlyMeets(a.m.Who, a.add))) + a.fresh
		c.Welcome = impl.CmtWelcome{Key: a.key, Init: impl.KnwBox{Key: a.key, Secret: next.Init}, Secret: impl.KnwBox{Key: a.key, Secret: secret}}
	}
	return next, c
}

// someAsks is, of each of some ones, each who may come with each who may go, nobody included, and many who may not.
func someAsks() []commitAsk {
	var all []commitAsk
	for i, m := range someMembers() {
		fresh := impl.MakNew((m.Who+i%3)%8, 50+i%50)
		for add := -1; add <= 8; add++ {
			for remove := -1; remove <= 8; remove++ {
				a := commitAsk{m: m, fresh: fresh, add: add, remove: remove}
				if add != -1 {
					a.leaf, a.key = "kE98;", "knE99;"
				}
				all = append(all, a)
			}
		}
	}
	return all
}

// somebodyBelowEach is whether below each place with a key somebody is in.
func somebodyBelowEach(keys []string) bool {
	for node, key := range keys {
		below := slices.ContainsFunc(plainlyIn(keys), func(who int) bool { return liesFrom(ownOf[who], node) })
		if key != "" && !below {
			return false
		}
	}
	return true
}

// othersOf is who is in behind a commit beside who sent it, but for who comes.
func othersOf(a commitAsk) []int {
	return slices.DeleteFunc(plainlyIn(plainlyBase(a)), func(who int) bool { return who == a.m.Who || who == a.add })
}
