package tests

import (
	"math/rand"
	"slices"
	"strconv"
	"strings"
	"testing"
	"unsafe"

	"loop.example/keyward/impl"
)

// Promises 74 and 75: who goes on, and its commit, by the words of the document alone.
func TestHowOneGoesOn(t *testing.T) {
	went := 0
	for _, a := range someAsks() {
		m, c, ok := a.commits()
		if !plainlyMay(a) {
			if !isNothing(m, c, ok) {
				t.Fatalf("%+v, %+v and %v, of %+v", m, c, ok, a)
			}
			continue
		}
		went++
		wantM, wantC := plainlyCommit(a)
		if !ok || !sameMember(m, wantM) || !sameCommit(c, wantC) {
			t.Fatalf("%+v, %+v and %v, not %+v and %+v, of %+v", m, c, ok, wantM, wantC, a)
		}
		if !impl.MemOk(m) {
			t.Fatalf("%+v is not ok, of %+v", m, a)
		}
	}
	if went < 2000 {
		t.Fatalf("only %d went on", went)
	}
}

// Promise 74.
func TestWhomOneMayLetInAndGo(t *testing.T) {
	for _, a := range someAsks() {
		m, _, ok := a.commits()
		in := impl.TreIn(a.m.Tree)
		isIn := func(who int) bool { return slices.Contains(in, who) }
		if a.add == a.m.Who || a.remove == a.m.Who || isIn(a.add) && a.add != a.remove || a.remove != -1 && !isIn(a.remove) {
			if ok {
				t.Fatalf("%d lets %d in, and %d go, of %v", a.m.Who, a.add, a.remove, in)
			}
			continue
		}
		if ok != (a.add < impl.SecMany) {
			t.Fatalf("%d lets %d in, and %d go, of %v: %v", a.m.Who, a.add, a.remove, in, ok)
		}
		if !ok {
			continue
		}
		var want []int
		for who := range impl.SecMany {
			if who == a.add || isIn(who) && who != a.remove {
				want = append(want, who)
			}
		}
		if got := impl.TreIn(m.Tree); !slices.Equal(got, want) {
			t.Fatalf("%v, not %v, are in, where %d lets %d in, and %d go, of %v", got, want, a.m.Who, a.add, a.remove, in)
		}
	}
}

// Promise 74: nobody is let in or go who is no one.
func TestNobodyElseIsLetInOrGo(t *testing.T) {
	m := oneOf(2, groupSecrets([]int{0, 1, 3, 2, 5}))
	for _, no := range append(outOf(0, impl.SecMany-1), -2, -3, -9) {
		if no == -1 {
			continue
		}
		for _, a := range []commitAsk{
			{m, "C9;", no, -1, "kE1;", "kE2;"}, {m, "C9;", no, -1, "", ""}, {m, "C9;", -1, no, "", ""}, {m, "C9;", no, no, "kE1;", "kE2;"}, {m, "C9;", no, no, "", ""},
			{m, "C9;", 4, no, "kE1;", "kE2;"}, {m, "C9;", no, 5, "kE1;", "kE2;"}, {m, "C9;", no, 5, "", ""},
		} {
			if m, c, ok := a.commits(); !isNothing(m, c, ok) {
				t.Errorf("%+v, of %+v", c, a)
			}
		}
	}
}

// Promise 75.
func TestNoMoreBoxesThanThereMustBe(t *testing.T) {
	for _, a := range someAsks() {
		m, c, ok := a.commits()
		if !ok {
			continue
		}
		keys := map[string]int{}
		for i, box := range c.Boxes {
			if j, ok := keys[box.Key]; ok {
				t.Fatalf("boxes %d and %d are shut with one key, of %+v", j, i, c)
			}
			keys[box.Key] = i
			if !slices.ContainsFunc(m.Own[1:], func(own impl.MemOwn) bool { return own.Secret == box.Secret }) {
				t.Fatalf("%+v is in a box, of %+v", box, m)
			}
		}
		if !somebodyBelowEach(a.m.Tree.Keys) {
			continue
		}
		if others := othersOf(a); len(c.Boxes) > len(others) || (len(c.Boxes) == 0) != (len(others) == 0) {
			t.Fatalf("%d boxes for %v, of %+v", len(c.Boxes), others, a)
		}
	}
}

// Promise 75: each other one has the key of just one box, and in there is the secret of where it meets who goes on.
func TestEachBesideIsToldOnce(t *testing.T) {
	for _, a := range someAsks() {
		m, c, ok := a.commits()
		if !ok {
			continue
		}
		base := plainlyBase(a)
		for who, own := range ownOf {
			var told []string
			for _, p := range plainlyUpward(own) {
				for _, box := range c.Boxes {
					if base[p] != "" && box.Key == base[p] && who != a.m.Who {
						told = append(told, box.Secret)
					}
				}
			}
			if slices.Contains(othersOf(a), who) {
				meet := slices.IndexFunc(m.Own, func(o impl.MemOwn) bool { return o.Node == plainlyMeets(who, a.m.Who) })
				if !slices.Equal(told, []string{m.Own[meet].Secret}) {
					t.Fatalf("%d is told %q, by %+v", who, told, c)
				}
			}
			if (who == a.add || who == a.remove) && len(told) != 0 {
				t.Fatalf("%d, who comes or goes, is told %q, by %+v", who, told, c)
			}
		}
	}
}

// boxesOf writes boxes as pairs of words.
func boxesOf(boxes []impl.KnwBox) string {
	var words []string
	for _, b := range boxes {
		words = append(words, b.Key, b.Secret)
	}
	return strings.Join(words, " ")
}

// Promises 74 and 75: a group by hand, from who begins on.
func TestAGroupByHand(t *testing.T) {
	m := impl.MemFirst(0, "A1;", "A2;")
	for _, c := range []struct {
		what        string
		fresh       string
		add, remove int
		leaf, key   string
		init        string
		boxes       string
		told        string
		keys        string
	}{
		{"alone", "A3;", -1, -1, "", "", "eA2;nnnnA3;", "", "",
			"knnnA3; knnA3; - knA3; - - - kA3; - - - - - - -"},
		{"one comes beside", "A4;", 1, -1, "kB1;", "kB2;", "eeA2;nnnnA3;nnnnA4;", "", "nA4;",
			"knnnA4; knnA4; - knA4; - - - kA4; kB1; - - - - - -"},
		{"one comes far off", "A5;", 7, -1, "kH1;", "kH2;", "eeeA2;nnnnA3;nnnnA4;nnnnA5;", "kB1; nA5;", "nnnA5;",
			"knnnA5; knnA5; - knA5; - - - kA5; kB1; - - - - - kH1;"},
		{"nobody comes", "A6;", -1, -1, "", "", "eeeeA2;nnnnA3;nnnnA4;nnnnA5;nnnnA6;", "kB1; nA6; kH1; nnnA6;", "",
			"knnnA6; knnA6; - knA6; - - - kA6; kB1; - - - - - kH1;"},
		{"one comes in the place of who goes", "A7;", 1, 1, "kB3;", "kB4;", "eeeeeA2;nnnnA3;nnnnA4;nnnnA5;nnnnA6;nnnnA7;", "kH1; nnnA7;", "nA7;",
			"knnnA7; knnA7; - knA7; - - - kA7; kB3; - - - - - kH1;"},
		{"one comes and another one goes", "A8;", 2, 7, "kC1;", "kC2;", "eeeeeeA2;nnnnA3;nnnnA4;nnnnA5;nnnnA6;nnnnA7;nnnnA8;", "kB3; nA8;", "nnA8;",
			"knnnA8; knnA8; - knA8; - - - kA8; kB3; kC1; - - - - -"},
		{"one goes", "A9;", -1, 1, "", "", "eeeeeeeA2;nnnnA3;nnnnA4;nnnnA5;nnnnA6;nnnnA7;nnnnA8;nnnnA9;", "kC1; nnA9;", "",
			"knnnA9; knnA9; - knA9; - - - kA9; - kC1; - - - - -"},
		{"all others go", "A10;", -1, 2, "", "", "eeeeeeeeA2;nnnnA3;nnnnA4;nnnnA5;nnnnA6;nnnnA7;nnnnA8;nnnnA9;nnnnA10;", "", "",
			"knnnA10; knnA10; - knA10; - - - kA10; - - - - - - -"},
	} {
		next, got, ok := impl.MemCommit(m, c.fresh, c.add, c.remove, c.leaf, c.key)
		keys := strings.Fields(strings.ReplaceAll(c.keys, "-", "none"))
		for i := range keys {
			keys[i] = strings.TrimPrefix(keys[i], "none")
		}
		n := c.fresh
		want := impl.MemMember{In: true, Tree: impl.TreTree{Keys: keys}, Own: []impl.MemOwn{{Node: 7, Secret: n}, {Node: 3, Secret: "n" + n}, {Node: 1, Secret: "nn" + n}, {Node: 0, Secret: "nnn" + n}}, Epoch: m.Epoch + 1, Init: c.init, Tag: m.Tag + n}
		if !ok || !sameMember(next, want) || !impl.MemOk(next) {
			t.Fatalf("%s: %+v, not %+v", c.what, next, want)
		}
		if got.Sender != 0 || got.Tag != m.Tag || got.Name != n || got.Add != c.add || got.Remove != c.remove || got.Leaf != c.leaf || !slices.Equal(got.Keys, keys) || boxesOf(got.Boxes) != c.boxes {
			t.Fatalf("%s: %+v", c.what, got)
		}
		welcome := impl.CmtWelcome{}
		if c.add >= 0 {
			welcome = impl.CmtWelcome{Key: c.key, Init: impl.KnwBox{Key: c.key, Secret: c.init}, Secret: impl.KnwBox{Key: c.key, Secret: c.told}}
		}
		if got.Welcome != welcome {
			t.Fatalf("%s: %+v, not %+v", c.what, got.Welcome, welcome)
		}
		m = next
	}
	if m.Tag != "A3;A4;A5;A6;A7;A8;A9;A10;" || m.Epoch != 8 {
		t.Fatal(m)
	}
}

// Promise 75: boxes where keys are missing beside and above, by hand, of the sixth one.
func TestBoxesForThoseBeside(t *testing.T) {
	for _, c := range []struct {
		what        string
		with        []int
		add, remove int
		want        string
	}{
		{"alone, with no key above", []int{12}, -1, -1, ""},
		{"all keys", []int{0, 1, 2, 3, 4, 5, 6, 7, 8, 9, 10, 11, 12, 13, 14}, -1, -1, "11:n 6:nn 1:nnn"},
		{"no keys above anybody", []int{7, 8, 9, 10, 11, 12, 13, 14}, -1, -1, "11:n 13:nn 14:nn 7:nnn 8:nnn 9:nnn 10:nnn"},
		{"no key above both beside", []int{0, 2, 5, 11, 12, 13, 14}, -1, -1, "11:n 13:nn 14:nn"},
		{"a key above some, none above others", []int{3, 7, 8, 10, 12}, -1, -1, "3:nnn 10:nnn"},
		{"a key above where nobody is", []int{4, 6, 12}, -1, -1, "6:nn 4:nnn"},
		{"a key above, and one of those below is not in", []int{1, 7, 12}, -1, -1, "1:nnn"},
		{"one goes, and keys above it with it", []int{0, 1, 2, 3, 4, 5, 6, 7, 8, 9, 10, 11, 12, 13, 14}, -1, 2, "11:n 6:nn 3:nnn 10:nnn"},
		{"who lies beside goes", []int{0, 1, 2, 3, 4, 5, 6, 7, 8, 9, 10, 11, 12, 13, 14}, -1, 4, "6:nn 1:nnn"},
		{"one comes below a key", []int{1, 3, 4, 7, 8, 9, 12}, 3, -1, "3:nnn 9:nnn"},
		{"one comes below a key, in the place of who goes", []int{1, 3, 4, 7, 8, 9, 10, 12}, 3, 3, "3:nnn 9:nnn"},
		{"one comes, and one goes beside it", []int{1, 3, 4, 7, 8, 9, 12}, 3, 2, "3:nnn"},
		{"one comes, and one goes, far off", []int{1, 3, 4, 6, 7, 8, 9, 12, 13, 14}, 3, 6, "14:nn 3:nnn 9:nnn"},
		{"who comes lies beside", []int{12, 14}, 4, -1, "14:nn"},
		{"who comes lies beside, where one goes", []int{11, 12, 14}, 4, 4, "14:nn"},
	} {
		shape := 0
		for _, p := range c.with {
			shape |= 1 << p
		}
		m := oneOf(5, shapeSecrets(shape))
		a := commitAsk{m: m, fresh: "F9;", add: c.add, remove: c.remove}
		if c.add >= 0 {
			a.leaf, a.key = "kE1;", "kE2;"
		}
		_, got, ok := a.commits()
		var words []string
		for _, b := range got.Boxes {
			place := slices.Index(m.Tree.Keys, b.Key)
			words = append(words, strconv.Itoa(place)+":"+strings.TrimSuffix(b.Secret, "F9;"))
		}
		if s := strings.Join(words, " "); !ok || s != c.want {
			t.Errorf("%s: %s, not %s", c.what, s, c.want)
		}
	}
}

// Promises 74 and 75: a group grows to all, whoever lets them in, in any order, and one more cannot come.
func TestAGroupGrowsToAll(t *testing.T) {
	r := rand.New(rand.NewSource(51))
	for round := range 40 {
		order := r.Perm(impl.SecMany)
		m := impl.MemFirst(order[0], impl.MakNew(order[0], 1), impl.MakNew(order[0], 2))
		for i, who := range order[1:] {
			next, c, ok := impl.MemCommit(m, impl.MakNew(m.Who, 3+i), who, -1, impl.MakKey(impl.MakNew(who, 1)), impl.MakKey(impl.MakNew(who, 2)))
			if !ok || !impl.MemOk(next) || len(impl.TreIn(next.Tree)) != i+2 || len(c.Boxes) != i {
				t.Fatalf("%+v and %v, where %d comes, of %v", c, ok, who, order)
			}
			if c.Welcome.Init.Secret != next.Init || c.Welcome.Key != impl.MakKey(impl.MakNew(who, 2)) {
				t.Fatalf("%+v, where %d comes, of %v", c.Welcome, who, order)
			}
			m = next
		}
		for add := range impl.SecMany {
			if _, _, ok := impl.MemCommit(m, "A50;", add, -1, "kE1;", "kE2;"); ok {
				t.Fatalf("%d comes once more, of %v", add, order)
			}
		}
		other := order[1+round%7]
		if next, _, ok := impl.MemCommit(m, "A50;", other, other, "kE1;", "kE2;"); !ok || len(impl.TreIn(next.Tree)) != impl.SecMany || next.Tree.Keys[ownOf[other]] != "kE1;" {
			t.Fatalf("%d does not come in its own place, of %v", other, order)
		}
		if _, c, ok := impl.MemCommit(m, "A50;", -1, -1, "", ""); !ok || len(c.Boxes) != 7 {
			t.Fatalf("%+v", c)
		}
	}
}

// The edges: below the last epoch one goes on, at it nobody does.
func TestNobodyGoesOnBehindTheLastEpoch(t *testing.T) {
	for _, m := range someMembers() {
		for epoch := range impl.MemEpochs + 1 {
			m.Epoch = epoch
			next, c, ok := impl.MemCommit(m, "A50;", -1, -1, "", "")
			if epoch < 12 && (!ok || next.Epoch != epoch+1 || !impl.MemOk(next)) || epoch == 12 && !isNothing(next, c, ok) {
				t.Fatalf("%+v and %v, in epoch %d", next, ok, epoch)
			}
		}
	}
	m := impl.MemFirst(4, "E1;", "E2;")
	for i := range impl.MemEpochs {
		next, _, ok := impl.MemCommit(m, impl.MakNew(4, 3+i), -1, -1, "", "")
		if !ok || next.Epoch != i+1 || !impl.MemOk(next) {
			t.Fatalf("%+v, behind %d commits", next, i)
		}
		m = next
	}
	if next, c, ok := impl.MemCommit(m, "E50;", -1, -1, "", ""); !isNothing(next, c, ok) || !impl.MemOk(m) {
		t.Fatalf("%+v goes on to %+v", m, next)
	}
}

// The edges: Tag and Name together, and Init, just as long as they may be, and one byte longer.
func TestJustSoLongNamesGoOn(t *testing.T) {
	for _, m := range someMembers() {
		for _, fresh := range []string{"A1;", "H9;", "B10;", "C99;"} {
			for size := 294; size <= 300; size++ {
				m.Tag, m.Init = strings.Repeat("A1;", 100)[:size], "A2;"
				next, c, ok := impl.MemCommit(m, fresh, -1, -1, "", "")
				if size+len(fresh) > 300 {
					if !isNothing(next, c, ok) {
						t.Fatalf("one goes on to %d bytes", size+len(fresh))
					}
					continue
				}
				if !ok || next.Tag != m.Tag+fresh || !impl.MemOk(next) {
					t.Fatalf("one does not go on to %d bytes: %+v", size+len(fresh), next)
				}
			}
			for _, size := range []int{3, 279, 280, 281, 282, 299, 300} {
				m.Tag, m.Init = "", nameOfSize(size)
				next, c, ok := impl.MemCommit(m, fresh, -1, -1, "", "")
				if size > 280 {
					if !isNothing(next, c, ok) {
						t.Fatalf("one goes on from %d bytes", size)
					}
					continue
				}
				if !ok || next.Init != "e"+m.Init+"nnnn"+fresh || !impl.MemOk(next) {
					t.Fatalf("one does not go on from %d bytes: %+v", size, next)
				}
			}
		}
	}
}

// Wrong inputs: who is not ok, or is not in, does not go on.
func TestWhoIsNotOkDoesNotGoOn(t *testing.T) {
	for _, m := range append(wrongMembers(), impl.MemMember{}) {
		for _, a := range []commitAsk{{m, "C9;", -1, -1, "", ""}, {m, "C9;", 4, -1, "kE1;", "kE2;"}, {m, "C9;", -1, 5, "", ""}, {m, "C9;", 5, 5, "kF1;", "kF2;"}} {
			if next, c, ok := a.commits(); !isNothing(next, c, ok) {
				t.Errorf("%+v, of %+v", next, m)
			}
		}
	}
}

// Wrong inputs: one goes on from a secret made anew, whoever made it, and from nothing else.
func TestOneGoesOnFromWhatIsMadeAnew(t *testing.T) {
	m := oneOf(2, groupSecrets([]int{0, 1, 3, 2, 5}))
	for who := range impl.SecMany {
		for n := 1; n <= impl.SecMost; n++ {
			if next, _, ok := impl.MemCommit(m, impl.MakNew(who, n), -1, -1, "", ""); !ok || next.Own[0].Secret != impl.MakNew(who, n) {
				t.Fatalf("one does not go on from %q", impl.MakNew(who, n))
			}
		}
	}
	for _, no := range append(noNames(), someNames()...) {
		if impl.SecMade(no).Op == impl.SecNew {
			continue
		}
		if next, c, ok := impl.MemCommit(m, no, -1, -1, "", ""); !isNothing(next, c, ok) {
			t.Fatalf("one goes on from %.40q", no)
		}
		if next, c, ok := impl.MemCommit(m, no, 4, 5, "kE1;", "kE2;"); !isNothing(next, c, ok) {
			t.Fatalf("one goes on from %.40q", no)
		}
	}
}

// Wrong inputs: keys of who comes that are the same, are none, or are there though nobody comes.
func TestKeysOfWhoComes(t *testing.T) {
	m := oneOf(2, groupSecrets([]int{0, 1, 3, 2, 5}))
	long := "k" + nameOfSize(impl.SecLong-1)
	for _, c := range [][2]string{{"kE1;", "kE2;"}, {"kE1;", "knE1;"}, {"kkE1;", "kE1;"}, {"kA1;", "kB1;"}, {long, "kE1;"}, {"kE1;", long}, {m.Tree.Keys[7], m.Tree.Keys[9]}} {
		for _, remove := range []int{-1, 0, 5} {
			if next, got, ok := impl.MemCommit(m, "C9;", 4, remove, c[0], c[1]); !ok || got.Leaf != c[0] || got.Welcome.Key != c[1] || next.Tree.Keys[11] != c[0] {
				t.Fatalf("%+v, of %.20q", got, c)
			}
		}
	}
	for _, remove := range []int{-1, 0, 5} {
		nothing := func(add int, leaf, key string) {
			t.Helper()
			if next, c, ok := impl.MemCommit(m, "C9;", add, remove, leaf, key); !isNothing(next, c, ok) {
				t.Errorf("%d comes with %.40q and %.40q", add, leaf, key)
			}
		}
		for _, add := range []int{4, 6, 7} {
			nothing(add, "kE1;", "kE1;")
			nothing(add, long, long)
			nothing(add, "", "")
			for _, no := range append(noKeyTexts(), "") {
				nothing(add, no, "kE2;")
				nothing(add, "kE1;", no)
				nothing(add, no, no)
			}
		}
		for _, some := range append(noKeyTexts(), "kE1;") {
			nothing(-1, some, "")
			nothing(-1, "", some)
			nothing(-1, some, some)
			nothing(-1, some, "kE2;")
		}
	}
}

// Where two places have one key each of them has its box: there is one for each place that covers.
func TestPlacesWithOneKey(t *testing.T) {
	m := oneOf(0, shapeSecrets(1<<7|1<<9|1<<10))
	m.Tree.Keys[10] = m.Tree.Keys[9]
	if _, c, ok := impl.MemCommit(m, "A50;", -1, -1, "", ""); !ok || boxesOf(c.Boxes) != "kA10; nnA50; kA10; nnA50;" {
		t.Fatal(c)
	}
}

// apartFrom is one in memory of its own, names and all, with something behind the end of each list.
func apartFrom(m impl.MemMember) impl.MemMember {
	own := make([]impl.MemOwn, len(m.Own), len(m.Own)+3)
	for i, o := range m.Own {
		own[i] = impl.MemOwn{Node: o.Node, Secret: strings.Clone(o.Secret)}
	}
	for i := range 3 {
		own[:len(m.Own)+3][len(m.Own)+i] = impl.MemOwn{Node: 99, Secret: "behind"}
	}
	m.Tree.Keys, m.Own, m.Init, m.Tag = apart(m.Tree.Keys), own, strings.Clone(m.Init), strings.Clone(m.Tag)
	return m
}

// namesIn is where each name lies that is in some texts, boxes and ones.
func namesIn(texts []string, boxes []impl.KnwBox, own []impl.MemOwn) map[*byte]string {
	texts = slices.Clone(texts)
	for _, b := range boxes {
		texts = append(texts, b.Key, b.Secret)
	}
	for _, o := range own {
		texts = append(texts, o.Secret)
	}
	at := map[*byte]string{}
	for _, s := range texts {
		if s != "" {
			at[unsafe.StringData(s)] = s
		}
	}
	return at
}

// shareNone fails if a name lies in two of some memories.
func shareNone(t *testing.T, all ...map[*byte]string) {
	t.Helper()
	seen := map[*byte]string{}
	for _, one := range all {
		for at, s := range one {
			if _, ok := seen[at]; ok {
				t.Fatalf("%q lies in two", s)
			}
		}
		for at, s := range one {
			seen[at] = s
		}
	}
}

// No call changes what is handed in, nor what lies behind its end; no answer shares memory with it, nor two lists of one answer with each other.
func TestWhoGoesOnStaysAsItWas(t *testing.T) {
	for i, a := range someAsks() {
		if i%3 != 0 && !plainlyMay(a) {
			continue
		}
		a.m, a.fresh, a.leaf, a.key = apartFrom(a.m), strings.Clone(a.fresh), strings.Clone(a.leaf), strings.Clone(a.key)
		if i%2 == 0 {
			a.m.Tag = ""
		}
		keys, own := slices.Clone(a.m.Tree.Keys[:cap(a.m.Tree.Keys)]), slices.Clone(a.m.Own[:cap(a.m.Own)])
		given := namesIn(append(slices.Clone(a.m.Tree.Keys), a.m.Init, a.m.Tag, a.fresh, a.leaf, a.key), nil, a.m.Own)
		impl.MemOk(a.m)
		known := impl.MemKnows(a.m)
		m, c, ok := a.commits()
		shareNone(t, given, namesIn(known, nil, nil))
		shareNone(t, given, namesIn(m.Tree.Keys, nil, nil), namesIn(nil, nil, m.Own), namesIn(c.Keys, nil, nil), namesIn(nil, c.Boxes, nil),
			namesIn([]string{m.Init, m.Tag}, nil, nil), namesIn([]string{c.Tag, c.Name, c.Leaf, c.Welcome.Key}, []impl.KnwBox{c.Welcome.Init, c.Welcome.Secret}, nil))
		wantM, wantC := copyOf(m), c
		wantC.Keys, wantC.Boxes = slices.Clone(c.Keys), slices.Clone(c.Boxes)
		// Each list is written over, one by one: none of the others turns with it.
		turn(known, "turned")
		for _, over := range []func(){func() { turn(m.Own, impl.MemOwn{}); wantM.Own = m.Own }, func() { turn(m.Tree.Keys, "turned"); wantM.Tree.Keys = m.Tree.Keys },
			func() { turn(c.Boxes, impl.KnwBox{}); wantC.Boxes = c.Boxes }, func() { turn(c.Keys, "turned too"); wantC.Keys = c.Keys }} {
			over()
			if !sameMember(m, wantM) || !sameCommit(c, wantC) {
				t.Fatalf("%+v and %+v turned", m, c)
			}
		}
		if !slices.Equal(m.Tree.Keys, slices.Repeat([]string{"turned"}, len(m.Tree.Keys))) {
			t.Fatalf("%q turned with the commit's keys", m.Tree.Keys)
		}
		if !slices.Equal(keys, a.m.Tree.Keys[:cap(a.m.Tree.Keys)]) || !slices.Equal(own, a.m.Own[:cap(a.m.Own)]) || ok && !impl.MemOk(a.m) {
			t.Fatalf("%+v turned", a.m)
		}
	}
}

// Who begins has new memory, too: names that are handed in lie elsewhere.
func TestWhoBeginsHasNewMemory(t *testing.T) {
	for who := range impl.SecMany {
		leaf, init := strings.Clone("A1;"), strings.Clone("A2;")
		for range 2 {
			m := impl.MemFirst(who, leaf, init)
			if m.Own[0].Secret != "A1;" || len(m.Own) != 4 || !impl.MemOk(m) {
				t.Fatal(m)
			}
			shareNone(t, namesIn([]string{leaf, init}, nil, nil), namesIn(m.Tree.Keys, nil, nil), namesIn(nil, nil, m.Own), namesIn([]string{m.Init}, nil, nil))
			turn(m.Own, impl.MemOwn{})
			if !slices.Equal(m.Tree.Keys, plainlySet(noKeys(), who, "A1;")) {
				t.Fatal(m)
			}
			turn(m.Tree.Keys, "turned")
		}
	}
}
