package tests

import (
	"math/rand"
	"slices"
	"strings"

	"loop.example/keyward/impl"
)

// overOf is the place under which each place lies, written out; -1 of the first.
var overOf = [...]int{-1, 0, 0, 1, 1, 2, 2, 3, 3, 4, 4, 5, 5, 6, 6}

// besideOf is the place beside each place, written out; -1 of the first.
var besideOf = [...]int{-1, 2, 1, 4, 3, 6, 5, 8, 7, 10, 9, 12, 11, 14, 13}

// ownOf is the place of each one, written out.
var ownOf = [...]int{7, 8, 9, 10, 11, 12, 13, 14}

// plainlyUpward is a place, and all above it.
func plainlyUpward(node int) []int {
	var up []int
	for ; node >= 0; node = overOf[node] {
		up = append(up, node)
	}
	return up
}

// liesFrom is whether a place is another one, or lies under it.
func liesFrom(node, top int) bool {
	return slices.Contains(plainlyUpward(node), top)
}

// leftmost is the first place of one's own that is a place, or lies under it.
func leftmost(node int) int {
	return slices.IndexFunc(ownOf[:], func(own int) bool { return liesFrom(own, node) })
}

// plainlyCover is the places with keys, from a place down, above which there is no key up to that place; from left to right.
func plainlyCover(keys []string, node int) []int {
	var cover []int
	for q := range keys {
		up := plainlyUpward(q)
		at := slices.Index(up, node)
		if keys[q] == "" || at < 0 {
			continue
		}
		if !slices.ContainsFunc(up[1:at+1], func(p int) bool { return keys[p] != "" }) {
			cover = append(cover, q)
		}
	}
	slices.SortFunc(cover, func(a, b int) int { return leftmost(a) - leftmost(b) })
	return cover
}

// plainlySet is keys with those of one, and of all above, written by hand.
func plainlySet(keys []string, who int, secret string) []string {
	all := slices.Clone(keys)
	for i, p := range plainlyUpward(ownOf[who]) {
		all[p] = "k" + strings.Repeat("n", i) + secret
	}
	return all
}

// plainlyClear is keys without those of one, and of all above.
func plainlyClear(keys []string, who int) []string {
	all := slices.Clone(keys)
	for _, p := range plainlyUpward(ownOf[who]) {
		all[p] = ""
	}
	return all
}

// plainlyIn is who has a key at its place.
func plainlyIn(keys []string) []int {
	var in []int
	for who, p := range ownOf {
		if keys[p] != "" {
			in = append(in, who)
		}
	}
	return in
}

// noKeys is as many places as a tree has, without keys.
func noKeys() []string {
	return make([]string, 15)
}

// fullKeys is keys where all have set theirs, one behind the other, in some order.
func fullKeys(order []int) []string {
	keys := noKeys()
	for _, who := range order {
		keys = plainlySet(keys, who, "ABCDEFGH"[who:who+1]+"1;")
	}
	return keys
}

// shapeKeys is a key, each unlike, at each place whose bit is set.
func shapeKeys(shape int) []string {
	keys := noKeys()
	for i, s := range manySecrets(15) {
		if shape>>i&1 == 1 {
			keys[i] = "k" + s
		}
	}
	return keys
}

// someKeys is keys of trees that are ok: none, all, one alone, one missing, as groups make them, and at any places, of any names.
func someKeys() [][]string {
	r := rand.New(rand.NewSource(31))
	all := [][]string{noKeys(), fullKeys([]int{0, 1, 2, 3, 4, 5, 6, 7}), fullKeys([]int{7, 6, 5, 4, 3, 2, 1, 0}), shapeKeys(1<<15 - 1)}
	for i := range 15 {
		all = append(all, shapeKeys(1<<i), shapeKeys(1<<15-1-1<<i))
	}
	for range 150 {
		keys := noKeys()
		for range r.Intn(14) {
			if who := r.Intn(8); r.Intn(3) > 0 {
				keys = plainlySet(keys, who, writtenName(r, r.Intn(5)))
			} else {
				keys = plainlyClear(keys, who)
			}
		}
		all = append(all, keys)
	}
	for range 100 {
		keys := noKeys()
		for i := range keys {
			if r.Intn(2) > 0 {
				keys[i] = "k" + writtenName(r, r.Intn(5))
			}
		}
		all = append(all, keys)
	}
	long := slices.Repeat([]string{"k" + nameOfSize(impl.SecLong-1)}, 15)
	return append(all, long)
}

// noKeyTexts is texts that are no keys, and not empty: no names, or names not made as SecKey.
func noKeyTexts() []string {
	texts := []string{"A1;", "H99;", "nA1;", "eA1;A1;", "mAA1;", "r1A1;", "nkA1;", "ekA1;kB1;", "mAkA1;", "r1kA1;", nameOfSize(impl.SecLong), "k" + nameOfSize(impl.SecLong)}
	for _, s := range noNames() {
		if s != "" {
			texts = append(texts, s)
		}
	}
	return texts
}

// wrongTrees is trees that are not ok: with too few keys, too many, and with what is no key at each place.
func wrongTrees() []impl.TreTree {
	full := fullKeys([]int{0, 1, 2, 3, 4, 5, 6, 7})
	trees := []impl.TreTree{{}, {Keys: []string{}}, {Keys: full[:1]}, {Keys: full[:7]}, {Keys: full[:8]}, {Keys: full[:14]}, {Keys: full[1:]},
		{Keys: noKeys()[:14]}, {Keys: append(noKeys(), "")}, {Keys: append(slices.Clone(full), "")}, {Keys: append(slices.Clone(full), "kA1;")},
		{Keys: slices.Repeat(full, 2)}, {Keys: make([]string, 1000)}}
	for _, no := range noKeyTexts() {
		for at := range full {
			trees = append(trees, impl.TreTree{Keys: with(full, at, no)}, impl.TreTree{Keys: with(noKeys(), at, no)})
		}
	}
	return trees
}

// with is a list with another text at a place, in new memory.
func with(list []string, at int, s string) []string {
	other := slices.Clone(list)
	other[at] = s
	return other
}

// apart is a list whose names each have memory of their own, with spare room behind its end.
func apart(list []string) []string {
	all := make([]string, len(list), len(list)+5)
	for i, s := range list {
		all[i] = strings.Clone(s)
	}
	for i := range 5 {
		all[:len(list)+5][len(list)+i] = "behind"
	}
	return all
}
