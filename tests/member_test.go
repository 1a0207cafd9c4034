package tests

import (
	"math"
	"math/rand"
	"slices"
	"strings"
	"testing"

	"loop.example/keyward/impl"
)

func TestNumbersOfHowOneGoesOn(t *testing.T) {
	if impl.MemEpochs != 12 {
		t.Fatal(impl.MemEpochs)
	}
}

// Promise 26.
func TestWhoBeginsIsAlone(t *testing.T) {
	names := append(someNames(), nameOfSize(impl.SecLong-9), nameOfSize(impl.SecLong-8), nameOfSize(impl.SecLong-7), nameOfSize(impl.SecLong-3))
	for i, leaf := range names {
		for who := range impl.SecMany {
			init := names[(i*5+who)%len(names)]
			m := impl.MemFirst(who, leaf, init)
			if len(leaf) > 292 {
				if !sameMember(m, impl.MemMember{}) {
					t.Fatalf("one begins with a secret of %d bytes: %+v", len(leaf), m)
				}
				continue
			}
			want := impl.MemMember{In: true, Who: who, Init: init}
			want.Tree.Keys = plainlySet(noKeys(), who, leaf)
			for up, p := range plainlyUpward(ownOf[who]) {
				want.Own = append(want.Own, impl.MemOwn{Node: p, Secret: strings.Repeat("n", up) + leaf})
			}
			if !sameMember(m, want) {
				t.Fatalf("%+v, not %+v", m, want)
			}
			if !impl.MemOk(m) || !m.In || !slices.Equal(impl.TreIn(m.Tree), []int{who}) || m.Epoch != 0 || m.Tag != "" {
				t.Fatalf("%+v, of %d, %q and %q", m, who, leaf, init)
			}
		}
	}
}

// Promise 26: one may begin with one secret for both, and with one that is not made anew; what the group has may be as long as a name.
func TestWithWhatOneMayBegin(t *testing.T) {
	for _, c := range [][2]string{{"A1;", "A1;"}, {"B1;", "H99;"}, {"kA1;", "eA1;B1;"}, {"nA1;", nameOfSize(299)}, {nameOfSize(292), nameOfSize(300)}} {
		for who := range impl.SecMany {
			if m := impl.MemFirst(who, c[0], c[1]); !m.In || !impl.MemOk(m) || m.Own[0].Secret != c[0] || m.Init != c[1] {
				t.Errorf("%+v, of %.20q and %.20q", m, c[0], c[1])
			}
		}
	}
}

// Promise 26: nobody begins, and none with what is no name, or too long.
func TestWhoDoesNotBegin(t *testing.T) {
	nothing := func(who int, leaf, init string) {
		t.Helper()
		if m := impl.MemFirst(who, leaf, init); !sameMember(m, impl.MemMember{}) {
			t.Errorf("%+v, of %d, %.40q and %.40q", m, who, leaf, init)
		}
	}
	for _, who := range outOf(0, impl.SecMany-1) {
		nothing(who, "A1;", "A2;")
	}
	for who := range impl.SecMany {
		for _, no := range noNames() {
			nothing(who, no, "A2;")
			nothing(who, "A1;", no)
			nothing(who, no, no)
		}
		for size := impl.SecLong - 7; size <= impl.SecLong+1; size++ {
			nothing(who, nameOfSize(size), "A2;")
		}
		nothing(who, "A1;", nameOfSize(impl.SecLong+1))
	}
}

// Promise 27.
func TestWhoIsInAGroupHasWhatItNeeds(t *testing.T) {
	for _, m := range someMembers() {
		if !impl.MemOk(m) || !plainlyOk(m) {
			t.Fatalf("%+v is not ok", m)
		}
		for node, key := range m.Tree.Keys {
			has := 0
			for _, own := range m.Own {
				if own.Node == node && impl.MakKey(own.Secret) == key {
					has++
				}
			}
			if needs := key != "" && slices.Contains(plainlyUpward(impl.TreLeaf(m.Who)), node); needs != (has == 1) {
				t.Fatalf("%+v has %d secrets of %d", m, has, node)
			}
		}
	}
}

// Promise 27: one secret less, one twice, one of another key, or of another place, is not ok.
func TestWhoHasNotJustWhatItNeeds(t *testing.T) {
	for _, m := range someMembers() {
		var wrong []impl.MemMember
		add := func(by func(m *impl.MemMember)) { wrong = append(wrong, turned(m, by)) }
		for i, own := range m.Own {
			add(func(m *impl.MemMember) { m.Own = slices.Delete(m.Own, i, i+1) })
			add(func(m *impl.MemMember) { m.Own = append(m.Own, own) })
			add(func(m *impl.MemMember) { m.Own = slices.Insert(m.Own, i, own) })
			add(func(m *impl.MemMember) { m.Own = append(m.Own, impl.MemOwn{Node: own.Node, Secret: "H77;"}) })
			add(func(m *impl.MemMember) { m.Own = slices.Insert(m.Own, 0, impl.MemOwn{Node: own.Node}) })
			for _, s := range []string{"", "x", "H77;", "n" + own.Secret, "k" + own.Secret, own.Secret + ";", own.Secret[:len(own.Secret)-1]} {
				add(func(m *impl.MemMember) { m.Own[i].Secret = s })
			}
			for _, node := range append(outOf(0, impl.TreNodes-1), 0, 1, 2, 3, 4, 5, 6, 7, 8, 9, 10, 11, 12, 13, 14) {
				if node != own.Node {
					add(func(m *impl.MemMember) { m.Own[i].Node = node })
					add(func(m *impl.MemMember) { m.Own = append(m.Own, impl.MemOwn{Node: node, Secret: own.Secret}) })
				}
			}
			add(func(m *impl.MemMember) { m.Tree.Keys[own.Node] = "" })
			add(func(m *impl.MemMember) { m.Tree.Keys[own.Node] = "kH77;" })
			add(func(m *impl.MemMember) { m.Tree.Keys[own.Node] = own.Secret })
		}
		add(func(m *impl.MemMember) { m.Own = nil })
		add(func(m *impl.MemMember) { m.Own, m.Tree.Keys[ownOf[m.Who]] = m.Own[1:], "" })
		add(func(m *impl.MemMember) { m.Own, m.Tree = nil, impl.TreNew() })
		for _, one := range wrong {
			if impl.MemOk(one) || plainlyOk(one) {
				t.Fatalf("%+v is ok, and was %+v", one, m)
			}
		}
	}
}

// Promise 27: a secret of a place that is not above one's own, or has no key, is of another place, though it be the right one.
func TestWhoHasASecretOfAnotherPlace(t *testing.T) {
	secrets := shapeSecrets(1<<15 - 1)
	for who := range impl.SecMany {
		m := oneOf(who, secrets)
		for node := range impl.TreNodes {
			if other := turned(m, func(m *impl.MemMember) { m.Own = append(m.Own, impl.MemOwn{Node: node, Secret: secrets[node]}) }); impl.MemOk(other) {
				t.Fatalf("%+v is ok, with the secret of %d", other, node)
			}
			without := turned(m, func(m *impl.MemMember) { m.Tree.Keys[node] = "" })
			if above := liesFrom(ownOf[who], node); impl.MemOk(without) == above {
				t.Fatalf("%+v without the key of %d: %v", without, node, !above)
			}
			if node == ownOf[who] || !liesFrom(ownOf[who], node) {
				continue
			}
			without.Own = slices.DeleteFunc(without.Own, func(own impl.MemOwn) bool { return own.Node == node })
			if !impl.MemOk(without) {
				t.Fatalf("%+v is not ok, without the key and the secret of %d", without, node)
			}
		}
	}
}

// Promise 27: keys that are not its own, and in which order its secrets are, make no difference.
func TestWhatMakesNoDifferenceToWhoIsIn(t *testing.T) {
	r := rand.New(rand.NewSource(42))
	for _, m := range someMembers() {
		mixed := turned(m, func(m *impl.MemMember) {
			r.Shuffle(len(m.Own), func(i, j int) { m.Own[i], m.Own[j] = m.Own[j], m.Own[i] })
		})
		if !impl.MemOk(mixed) {
			t.Fatalf("%+v is not ok", mixed)
		}
		for node := range impl.TreNodes {
			if liesFrom(ownOf[m.Who], node) {
				continue
			}
			for _, key := range []string{"", "kA1;", "kkA1;", m.Tree.Keys[ownOf[m.Who]]} {
				if other := turned(m, func(m *impl.MemMember) { m.Tree.Keys[node] = key }); !impl.MemOk(other) {
					t.Fatalf("%+v is not ok", other)
				}
			}
		}
	}
	long := shapeSecrets(1 << 7)
	for p := range long {
		long[p] = nameOfSize(impl.SecLong - 1)
	}
	if m := oneOf(0, long); !impl.MemOk(m) {
		t.Fatalf("%+v is not ok", m)
	}
	for p := range long {
		long[p] = nameOfSize(impl.SecLong)
	}
	if m := oneOf(0, long); impl.MemOk(m) {
		t.Fatalf("%+v is ok, with keys that are too long", m)
	}
}

// Promise 27: who it is, the epoch, what the group has, and the commits so far, at their bounds and out of them.
func TestBoundsOfWhoIsIn(t *testing.T) {
	for _, m := range someMembers() {
		look := func(want bool, by func(m *impl.MemMember)) {
			t.Helper()
			if other := turned(m, by); impl.MemOk(other) != want || plainlyOk(other) != want {
				t.Fatalf("%+v: %v", other, !want)
			}
		}
		for epoch := range impl.MemEpochs + 1 {
			look(true, func(m *impl.MemMember) { m.Epoch = epoch })
		}
		for _, epoch := range outOf(0, impl.MemEpochs) {
			look(false, func(m *impl.MemMember) { m.Epoch = epoch })
		}
		for _, who := range append(outOf(0, impl.SecMany-1), (m.Who+1)%8, (m.Who+4)%8, 7-m.Who) {
			look(false, func(m *impl.MemMember) { m.Who = who })
		}
		for _, size := range []int{0, 3, 299, 300, 301, 1000} {
			look(size <= 300, func(m *impl.MemMember) { m.Tag = strings.Repeat("A1;", 400)[:size] })
		}
		for _, init := range []string{"A1;", "kA1;", "eA1;nnnnA2;", nameOfSize(299), nameOfSize(300)} {
			look(true, func(m *impl.MemMember) { m.Init = init })
		}
		look(false, func(m *impl.MemMember) { m.Init = nameOfSize(301) })
		look(false, func(m *impl.MemMember) { m.Init = "" })
		look(false, func(m *impl.MemMember) { m.In = false })
	}
	m := impl.MemFirst(3, "D1;", "D2;")
	for _, no := range noNames() {
		if impl.MemOk(turned(m, func(m *impl.MemMember) { m.Init = no })) {
			t.Errorf("what the group has is %.40q", no)
		}
	}
	for _, tree := range wrongTrees() {
		if impl.MemOk(turned(m, func(m *impl.MemMember) { m.Tree = tree })) {
			t.Errorf("one is ok with %.60q", tree)
		}
	}
}

// Promise 27: who is not in is ok just if it has nothing.
func TestWhoIsNotInHasNothing(t *testing.T) {
	for _, m := range []impl.MemMember{{}, {Own: []impl.MemOwn{}}, {Tree: impl.TreTree{Keys: []string{}}}, {Own: make([]impl.MemOwn, 0, 5), Tree: impl.TreTree{Keys: noKeys()[:0]}}} {
		if !impl.MemOk(m) {
			t.Errorf("%+v is not ok", m)
		}
	}
	for _, m := range []impl.MemMember{{In: true}, {Who: 1}, {Who: -1}, {Tree: impl.TreNew()}, {Tree: impl.TreTree{Keys: []string{""}}}, {Own: make([]impl.MemOwn, 1)}, {Epoch: 1}, {Epoch: -1}, {Init: "A1;"}, {Tag: "A1;"}} {
		if impl.MemOk(m) {
			t.Errorf("%+v is ok", m)
		}
	}
}

// Promise 27: just who is ok, by the words of the document alone.
func TestWhoIsOk(t *testing.T) {
	r := rand.New(rand.NewSource(43))
	all := append(someMembers(), impl.MemMember{})
	texts := []string{"", "x", "A1;", "kA1;", "nA1;", "knA1;", "H77;"}
	ok := 0
	for range 20000 {
		m := copyOf(all[r.Intn(len(all))])
		other := all[r.Intn(len(all))]
		for range r.Intn(3) {
			switch r.Intn(9) {
			case 0:
				m.Who = r.Intn(11) - 1
			case 1:
				m.Epoch = r.Intn(16) - 1
			case 2:
				m.Own = slices.Clone(other.Own)
			case 3:
				m.Tree.Keys = slices.Clone(other.Tree.Keys)
			case 4:
				if len(m.Own) > 0 {
					m.Own[r.Intn(len(m.Own))].Node = r.Intn(17) - 1
				}
			case 5:
				if len(m.Own) > 0 {
					m.Own[r.Intn(len(m.Own))].Secret = texts[r.Intn(len(texts))]
				}
			case 6:
				if len(m.Tree.Keys) > 0 {
					m.Tree.Keys[r.Intn(len(m.Tree.Keys))] = texts[r.Intn(len(texts))]
				}
			case 7:
				m.In = r.Intn(2) > 0
			case 8:
				m.Init = texts[r.Intn(len(texts))]
			}
		}
		if got := impl.MemOk(m); got != plainlyOk(m) {
			t.Fatalf("%+v: %v", m, got)
		} else if got {
			ok++
		}
	}
	if ok < 2000 || ok > 18000 {
		t.Fatalf("%d were ok", ok)
	}
}

// Promise 28.
func TestWhatOneKnowsIsItsSecrets(t *testing.T) {
	r := rand.New(rand.NewSource(44))
	for _, m := range someMembers() {
		for range 3 {
			var want []string
			for _, own := range m.Own {
				want = append(want, own.Secret)
			}
			want = append(want, m.Init)
			if got := impl.MemKnows(m); !slices.Equal(got, want) {
				t.Fatalf("%q, not %q, of %+v", got, want, m)
			}
			r.Shuffle(len(m.Own), func(i, j int) { m.Own[i], m.Own[j] = m.Own[j], m.Own[i] })
		}
	}
	if got := impl.MemKnows(impl.MemFirst(1, "B1;", "B2;")); !slices.Equal(got, []string{"B1;", "nB1;", "nnB1;", "nnnB1;", "B2;"}) {
		t.Fatal(got)
	}
	if got := impl.MemKnows(impl.MemFirst(1, "B1;", "B1;")); !slices.Equal(got, []string{"B1;", "nB1;", "nnB1;", "nnnB1;", "B1;"}) {
		t.Fatal(got)
	}
}

// wrongMembers is ones that are not ok, each nearly as one that is.
func wrongMembers() []impl.MemMember {
	m := oneOf(2, groupSecrets([]int{0, 1, 3, 2, 5}))
	var all []impl.MemMember
	for _, by := range []func(m *impl.MemMember){
		func(m *impl.MemMember) { m.In = false },
		func(m *impl.MemMember) { m.Who = 3 },
		func(m *impl.MemMember) { m.Who = -1 },
		func(m *impl.MemMember) { m.Who = 8 },
		func(m *impl.MemMember) { m.Tree.Keys = m.Tree.Keys[:14] },
		func(m *impl.MemMember) { m.Tree.Keys = append(m.Tree.Keys, "") },
		func(m *impl.MemMember) { m.Tree.Keys[14] = "x" },
		func(m *impl.MemMember) { m.Tree = impl.TreTree{} },
		func(m *impl.MemMember) { m.Own = m.Own[1:] },
		func(m *impl.MemMember) { m.Own = append(m.Own, m.Own[0]) },
		func(m *impl.MemMember) { m.Own = append(m.Own, impl.MemOwn{Node: m.Own[0].Node, Secret: "C9;"}) },
		func(m *impl.MemMember) { m.Own[1].Secret = "C9;" },
		func(m *impl.MemMember) { m.Own[1].Node = 14 },
		func(m *impl.MemMember) { m.Own[3].Node = -1 },
		func(m *impl.MemMember) { m.Own, m.Tree = m.Own[1:], impl.TreClear(m.Tree, m.Who) },
		func(m *impl.MemMember) { m.Epoch = -1 },
		func(m *impl.MemMember) { m.Epoch = impl.MemEpochs + 1 },
		func(m *impl.MemMember) { m.Epoch = math.MaxInt },
		func(m *impl.MemMember) { m.Init = "" },
		func(m *impl.MemMember) { m.Init = "A1" },
		func(m *impl.MemMember) { m.Tag = strings.Repeat("A1;", 100) + "A" },
	} {
		all = append(all, turned(m, by))
	}
	return all
}

// Promise 28: of who is in none, or is not ok, nothing.
func TestWhoIsNotOkKnowsNothing(t *testing.T) {
	for _, m := range append(wrongMembers(), impl.MemMember{}) {
		if got := impl.MemKnows(m); len(got) != 0 {
			t.Errorf("%q, of %+v", got, m)
		}
	}
}
