package tests

import (
	"math/rand"
	"slices"
	"strconv"

	"loop.example/keyward/impl"
)

// plainlyFrom is the names from which one was made, cut out of its text by hand.
func plainlyFrom(s string) []string {
	switch s[0] {
	case 'n', 'k':
		return []string{s[1:]}
	case 'm', 'r':
		return []string{s[2:]}
	case 'e':
		for i := 2; i < len(s); i++ {
			if plainlyName(s[1:i]) {
				return []string{s[1:i], s[i:]}
			}
		}
	}
	return nil
}

// plainlyMake says whether a secret can be made from some, by the words of the document.
func plainlyMake(known []string, s string) bool {
	if slices.Contains(known, s) {
		return true
	}
	from := plainlyFrom(s)
	for _, f := range from {
		if !plainlyMake(known, f) {
			return false
		}
	}
	return len(from) > 0
}

// plainlyOpen is what is known once boxes are opened, round by round, by the words of the document.
func plainlyOpen(known []string, boxes []impl.KnwBox) []string {
	var all []string
	for _, s := range known {
		if !slices.Contains(all, s) {
			all = append(all, s)
		}
	}
	for opened := true; opened; {
		opened = false
		for _, b := range boxes {
			if !slices.Contains(all, b.Secret) && plainlyMake(all, b.Key) {
				all = append(all, b.Secret)
				opened = true
			}
		}
	}
	return all
}

// fewNames is names so few and small that some picked from them often are made from each other.
func fewNames() []string {
	names := []string{"A1;", "A2;", "B1;", "C1;"}
	for _, s := range names[:4:4] {
		names = append(names, "k"+s, "n"+s, "kn"+s, "mB"+s, "r1"+s)
	}
	for _, a := range []string{"A1;", "nB1;", "kC1;"} {
		for _, b := range []string{"A2;", "B1;", "A1;"} {
			names = append(names, "e"+a+b, "ke"+a+b, "mAe"+a+b)
		}
	}
	return names
}

// pick is some of names, at most that many, some of them perhaps twice.
func pick(r *rand.Rand, names []string, most int) []string {
	var some []string
	for range r.Intn(most + 1) {
		some = append(some, names[r.Intn(len(names))])
	}
	return some
}

// pickBoxes is at most that many boxes, keys and what is in them from names.
func pickBoxes(r *rand.Rand, names []string, most int) []impl.KnwBox {
	var boxes []impl.KnwBox
	for range r.Intn(most + 1) {
		boxes = append(boxes, impl.KnwBox{Key: names[r.Intn(len(names))], Secret: names[r.Intn(len(names))]})
	}
	return boxes
}

// manySecrets is that many secrets made anew, all unlike; there are 792.
func manySecrets(many int) []string {
	var all []string
	for i := range many {
		all = append(all, "ABCDEFGH"[i/99:i/99+1]+strconv.Itoa(i%99+1)+";")
	}
	return all
}

// chainOf is boxes of which each one's key is that of what the one ahead of it has in it; the first one's is that of the first secret.
func chainOf(secrets []string) []impl.KnwBox {
	var boxes []impl.KnwBox
	for i, s := range secrets[1:] {
		boxes = append(boxes, impl.KnwBox{Key: "k" + secrets[i], Secret: s})
	}
	return boxes
}

// inOrder is a list sorted, itself left as it is.
func inOrder(names []string) []string {
	return slices.Sorted(slices.Values(names))
}

// behind is one list behind another one, in new memory.
func behind[T any](a, b []T) []T {
	return slices.Concat(a, b)
}

// orders is all orders of some boxes.
func orders(boxes []impl.KnwBox) [][]impl.KnwBox {
	if len(boxes) == 0 {
		return [][]impl.KnwBox{nil}
	}
	var all [][]impl.KnwBox
	for i, b := range boxes {
		for _, rest := range orders(behind(boxes[:i], boxes[i+1:])) {
			all = append(all, behind([]impl.KnwBox{b}, rest))
		}
	}
	return all
}
