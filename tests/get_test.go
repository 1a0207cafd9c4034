package tests

import (
	"math/rand"
	"slices"
	"strconv"
	"strings"
	"testing"
	"unsafe"

	"loop.example/keyward/impl"
)

// gets is windows behind a frame; the test fails if it is not heard, or not as the document says.
func gets(t *testing.T, what string, m impl.MemMember, wins []impl.FraWin, f impl.FraFrame) []impl.FraWin {
	t.Helper()
	got, ok := impl.FraGet(m, wins, f)
	if want, may := plainlyGet(m, wins, f); !ok || !may || !sameWins(got, want) {
		t.Fatalf("%s: %v and %v, not %v and %v, of %+v, %v and %+v", what, got, ok, want, may, m, wins, f)
	}
	return got
}

// hearsNot fails unless a frame is not heard, and all windows are as they are.
func hearsNot(t *testing.T, what string, m impl.MemMember, wins []impl.FraWin, f impl.FraFrame) {
	t.Helper()
	if got, ok := impl.FraGet(m, wins, f); ok || !sameWins(got, wins) {
		t.Fatalf("%s: %v and %v, of %+v, %v and %+v", what, got, ok, m, wins, f)
	}
}

// hasNone fails unless there are no windows, and false.
func hasNone(t *testing.T, what string, m impl.MemMember, wins []impl.FraWin, f impl.FraFrame) {
	t.Helper()
	if got, ok := impl.FraGet(m, wins, f); ok || len(got) != 0 {
		t.Fatalf("%s: %v and %v, of %+v, %v and %+v", what, got, ok, m, wins, f)
	}
}

// otherWins is windows of other groups' keys, of all ways that a window can be.
func otherWins() []impl.FraWin {
	return []impl.FraWin{winOf("mAH91;", 5, 3), winOf("mHkH91;", 999, 998, 992), winOf("mBeA91;B92;", 1), winOf("mCk"+nameOfSize(297), 8, 7, 6, 5, 4, 3, 2, 1)}
}

// Promise 34: of some groups each who is in hears each other one, once, and never itself.
func TestWhoHearsAFrameIsInTheSameEpoch(t *testing.T) {
	heard := 0
	for i, group := range someGroups() {
		for _, from := range group {
			f := says(t, from, 1+i*71%impl.FraMost, "hi")
			for _, m := range group {
				for _, wins := range [][]impl.FraWin{nil, otherWins()} {
					if m.Who == from.Who {
						hearsNot(t, "oneself", m, wins, f)
						continue
					}
					got := gets(t, "one of a group", m, wins, f)
					if len(got) != len(wins)+1 || !sameWins(got[:len(wins)], wins) || !sameWin(got[len(wins)], winOf(impl.MakSay(m.Init, f.From), f.N)) {
						t.Fatalf("%v, of %+v and %+v", got, m, f)
					}
					hearsNot(t, "once more", m, got, f)
					heard++
				}
			}
			hearsNot(t, "in none", impl.MemMember{}, otherWins(), f)
		}
	}
	if heard < 400 {
		t.Fatal(heard)
	}
}

// Promise 34: frames in order, out of order, by leaps, twice and too late, of several who say something, each heard once.
func TestFramesInOrderAndOutOfOrder(t *testing.T) {
	group := groupOf(groupSecrets([]int{0, 1, 3, 2, 5}), 4, "eA90;nnnnB90;")
	come := []struct {
		n     int
		heard bool
	}{{4, true}, {5, true}, {6, true}, {2, true}, {1, true}, {2, false}, {12, true}, {4, false}, {5, false}, {7, true}, {11, true}, {12, false}, {20, true}, {12, false}, {13, true}, {14, true}, {28, true}, {20, false}, {21, true}, {28, false}, {36, true}, {29, true}, {500, true}, {992, true}, {999, true}, {991, false}, {992, false}, {999, false}}
	for _, m := range group {
		var wins []impl.FraWin
		for i, c := range come {
			for _, from := range group {
				f := says(t, from, c.n, "abc")
				if from.Who == m.Who || !c.heard {
					hearsNot(t, strconv.Itoa(i), m, wins, f)
					continue
				}
				wins = gets(t, strconv.Itoa(i), m, wins, f)
				hearsNot(t, "once more", m, wins, f)
			}
		}
		if len(wins) != len(group)-1 || slices.ContainsFunc(wins, func(w impl.FraWin) bool { return w.Top != 999 || !slices.Equal(w.Seen, []int{999, 992}) }) {
			t.Fatal(wins)
		}
	}
}

// Promise 34: of several windows just one takes the frame, wherever it is; without it there is one more, behind all.
func TestOtherWindowsStay(t *testing.T) {
	group := groupOf(groupSecrets([]int{0, 1, 3, 2, 5}), 4, "A90;")
	m := group[1]
	f := says(t, group[2], 20, "x")
	for _, own := range []impl.FraWin{winOf(f.Key, 19), winOf(f.Key, 21, 19), winOf(f.Key, 27), winOf(f.Key, 12), winOf(f.Key, 13), winOf(f.Key, 999), winOf(f.Key, 28), winOf(f.Key, 20), winOf(f.Key, 25, 20, 19)} {
		want, took := plainlyTake(own, 20)
		for at := range len(otherWins()) + 1 {
			wins := slices.Insert(otherWins(), at, own)
			got, ok := impl.FraGet(m, wins, f)
			if ok != took || !sameWin(got[at], want) || !sameWins(slices.Delete(got, at, at+1), otherWins()) {
				t.Fatalf("%v and %v, of %v", got, ok, wins)
			}
		}
	}
	// Windows of others in the same group, and of oneself, are others, too.
	var wins []impl.FraWin
	for _, from := range group {
		if from.Who != f.From {
			wins = append(wins, winOf(plainlySaid("A90;", from.Who), 20))
		}
	}
	if got := gets(t, "one more", m, wins, f); len(got) != len(wins)+1 || !sameWin(got[len(wins)], winOf(f.Key, 20)) {
		t.Fatal(got)
	}
}

// Promise 34: there may be many windows.
func TestAmongManyWindows(t *testing.T) {
	group := groupOf(groupSecrets([]int{0, 1}), 1, "A90;")
	var wins []impl.FraWin
	for who := range impl.SecMany {
		for _, s := range manySecrets(600) {
			wins = append(wins, winOf(plainlySaid("k"+s, who), 1+len(wins)%999))
		}
	}
	f := says(t, group[0], 3, "x")
	more := gets(t, "none of it", group[1], wins, f)
	hearsNot(t, "once more", group[1], more, f)
	f.N = 2
	gets(t, "one of it", group[1], more, f)
	hasNone(t, "the first once more", group[1], append(more, wins[0]), f)
}

// Promise 34: what is not for who hears it is not heard: of who is not in, with another one's key, of another group, or not ok.
func TestFramesThatAreNotHeard(t *testing.T) {
	group := groupOf(groupSecrets([]int{0, 1, 3, 2, 5}), 4, "A90;")
	m := group[2]
	f := says(t, group[0], 3, "hi")
	all := append(otherWins(), winOf(f.Key, 1), winOf("mBA90;", 1))
	for _, wins := range [][]impl.FraWin{nil, otherWins(), all} {
		gets(t, "as it is said", m, wins, f)
		for _, no := range wrongFrames(f) {
			hearsNot(t, "not ok", m, wins, no)
		}
		for who := range impl.SecMany {
			frame := impl.FraFrame{From: who, Key: plainlySaid("A90;", who), N: 3, Text: "hi"}
			if slices.Contains([]int{0, 1, 3, 5}, who) {
				gets(t, "who is in", m, wins, frame)
			} else {
				hearsNot(t, "who is not in, or oneself", m, wins, frame)
			}
			for _, init := range append(someNames(), "A9;", "A91;", "kA90;", "nA90;", "eA90;A90;", "mAA90;", "H90;") {
				if frame.Key = plainlySaid(init, who); impl.FraOk(frame) && init != "A90;" {
					hearsNot(t, "another secret", m, wins, frame)
				}
			}
		}
	}
}

// Promise 34: a frame of one whose place has no key is not heard, whatever places above it have.
func TestWhoHasNoPlaceIsNotHeard(t *testing.T) {
	for shape := 1 << 7; shape < 1<<15; shape += 37 {
		group := groupOf(shapeSecrets(shape), 3, "A90;")
		for _, m := range group {
			for who := range impl.SecMany {
				f := impl.FraFrame{From: who, Key: plainlySaid("A90;", who), N: 3}
				if shape>>ownOf[who]&1 == 1 && who != m.Who {
					gets(t, "has one", m, nil, f)
				} else {
					hearsNot(t, "has none", m, nil, f)
				}
			}
		}
	}
}

// Promise 34: who is not ok has no windows, and where one is not ok, or two have one key, there are none, whatever comes.
func TestWhatIsNotOkHasNoWindows(t *testing.T) {
	group := groupOf(groupSecrets([]int{0, 1, 3, 2, 5}), 4, "A2;")
	f := says(t, group[0], 3, "hi")
	frames := []impl.FraFrame{f, says(t, group[2], 3, "hi"), {}, {From: 0, Key: "mAH1;", N: 3}}
	for _, f := range frames {
		for _, wins := range [][]impl.FraWin{nil, otherWins(), {winOf(f.Key+"x", 1)}} {
			for _, no := range wrongMembers() {
				hasNone(t, "not ok", no, wins, f)
			}
		}
		for _, m := range []impl.MemMember{group[2], {}} {
			for _, no := range wrongWins() {
				for at := range len(otherWins()) + 1 {
					hasNone(t, "a window not ok", m, slices.Insert(otherWins(), at, no), f)
				}
			}
			for _, w := range append(otherWins(), winOf("mAA2;", 1)) {
				wins := append(otherWins(), winOf("mAA2;", 1))
				for at := range len(wins) + 1 {
					twice := slices.Insert(slices.Clone(wins), at, winOf(w.Key, 10, 9))
					hasNone(t, "two of one key", m, twice, f)
				}
			}
		}
	}
}

// Promise 34: of a group that has just not too long a name to say with all hear; of a longer one nobody does.
func TestJustSoLongWhatTheGroupHasIsHeardWith(t *testing.T) {
	for _, size := range []int{297, 298, 299, 300} {
		group := groupOf(groupSecrets([]int{0, 1, 3, 2, 5}), 4, nameOfSize(size))
		for _, from := range group {
			for _, m := range group {
				f := impl.FraFrame{From: from.Who, Key: plainlySaid(from.Init, from.Who), N: 3, Text: "hi"}
				if size <= 298 && from.Who != m.Who {
					got := gets(t, "just so long", m, otherWins(), f)
					hearsNot(t, "once more", m, got, f)
				} else {
					hearsNot(t, "too long, or oneself", m, otherWins(), f)
				}
				f.Key = ""
				hearsNot(t, "no key", m, otherWins(), f)
			}
		}
	}
}

// Promise 34: numbers and texts at their edges are heard.
func TestFramesAtTheirEdgesAreHeard(t *testing.T) {
	group := groupOf(groupSecrets([]int{6, 2}), 1, "A90;")
	for _, n := range []int{1, 2, 998, 999} {
		for _, text := range someTexts() {
			f := says(t, group[0], n, text)
			hearsNot(t, "once more", group[1], gets(t, "at the edge", group[1], nil, f), f)
		}
	}
}

// Promise 34: over a group that goes on: what is said is heard where it is said, by all others, not behind the next commit, and not by who comes later.
func TestWhatIsSaidIsHeardInItsEpoch(t *testing.T) {
	r := rand.New(rand.NewSource(81))
	for range 12 {
		g := beginTogether(t, r.Intn(8))
		wins := map[int][]impl.FraWin{}
		var old []impl.FraFrame
		for epoch := range impl.MemEpochs {
			in := g.others(-1)
			from := g.in[in[r.Intn(len(in))]]
			f := says(t, from, 1+epoch, "hi")
			for _, who := range in {
				for _, was := range old {
					hearsNot(t, "of an epoch ahead", g.in[who], wins[who], was)
				}
				if who == from.Who {
					continue
				}
				had := len(wins[who])
				wins[who] = gets(t, "of this epoch", g.in[who], wins[who], f)
				hearsNot(t, "once more", g.in[who], wins[who], f)
				if len(wins[who]) != had+1 {
					t.Fatal(wins[who])
				}
			}
			old = append(old, f)
			who := in[r.Intn(len(in))]
			add, remove := -1, -1
			if one := r.Intn(8); !slices.Contains(in, one) {
				add = one
			}
			if rest := g.others(who); len(rest) > 2 && r.Intn(3) == 0 {
				remove = rest[r.Intn(len(rest))]
			}
			g.goOn(who, add, remove)
			if remove >= 0 {
				hearsNot(t, "let go", g.in[remove], wins[remove], says(t, g.in[who], 1, ""))
			}
		}
	}
}

// Whatever is turned of a frame, of windows, or of who hears it: by the words of the document alone.
func TestHowAFrameIsHeard(t *testing.T) {
	r := rand.New(rand.NewSource(82))
	groups, wrong := someGroups(), wrongMembers()
	heard, stayed, none := 0, 0, 0
	for range 60000 {
		group := groups[r.Intn(len(groups))]
		from, m := group[r.Intn(len(group))], group[r.Intn(len(group))]
		f := impl.FraFrame{From: from.Who, Key: plainlySaid(from.Init, from.Who), N: 1 + r.Intn(24), Text: "hi"}
		wins := copyOfWins(otherWins()[:r.Intn(4)])
		for i := range r.Intn(3) {
			wins = slices.Insert(wins, r.Intn(len(wins)+1), someWin(r, plainlySaid(m.Init, (from.Who+i)%8)))
		}
		for range r.Intn(2) {
			turnHearing(r, &m, wins, &f)
		}
		if r.Intn(12) == 0 {
			m = wrong[r.Intn(len(wrong))]
		}
		got, ok := impl.FraGet(m, wins, f)
		want, may := plainlyGet(m, wins, f)
		if ok != may || !sameWins(got, want) {
			t.Fatalf("%v and %v, not %v and %v, of %+v, %v and %+v", got, ok, want, may, m, wins, f)
		}
		switch {
		case ok:
			heard++
		case len(got) > 0:
			stayed++
		default:
			none++
		}
	}
	if heard < 10000 || stayed < 8000 || none < 5000 {
		t.Fatal(heard, stayed, none)
	}
}

// someWin is some window that is ok.
func someWin(r *rand.Rand, key string) impl.FraWin {
	w := winOf(key, 1+r.Intn(24))
	for n := w.Top - 1; n >= 1 && n > w.Top-8; n-- {
		if r.Intn(3) == 0 {
			w.Seen = append(w.Seen, n)
		}
	}
	return w
}

// turnHearing turns one thing of who hears a frame, of windows, or of the frame.
func turnHearing(r *rand.Rand, m *impl.MemMember, wins []impl.FraWin, f *impl.FraFrame) {
	switch r.Intn(9) {
	case 0:
		f.From = r.Intn(10) - 1
	case 1:
		who := r.Intn(8)
		f.From, f.Key = who, plainlySaid(m.Init, who)
	case 2:
		f.Key = []string{"", "mAA1;", "kA1;", f.Key[2:], plainlySaid("k"+m.Init, f.From)}[r.Intn(5)]
	case 3:
		f.N = []int{-1, 0, 999, 1000}[r.Intn(4)]
	case 4:
		f.Text = []string{"", "abcdefgh", "abcdefghi", "A"}[r.Intn(4)]
	case 5:
		m.Init = []string{"A1;", "", "x", f.Key[2:], nameOfSize(299)}[r.Intn(5)]
	case 6:
		*m = impl.MemMember{}
	case 7:
		if len(wins) > 0 {
			wins[r.Intn(len(wins))].Top += r.Intn(3) - 1
		}
	case 8:
		if len(wins) > 0 {
			w := &wins[r.Intn(len(wins))]
			w.Seen = append(w.Seen, w.Seen[len(w.Seen)-1]-r.Intn(3))
		}
	}
}

// apartWins is windows in memory of their own, names and all, with something behind the end of each list.
func apartWins(wins []impl.FraWin) []impl.FraWin {
	all := make([]impl.FraWin, len(wins), len(wins)+2)
	for i, w := range wins {
		all[i] = impl.FraWin{Key: strings.Clone(w.Key), Top: w.Top, Seen: append(slices.Clone(w.Seen), -7, -7)[:len(w.Seen)]}
	}
	for i := range 2 {
		all[:len(wins)+2][len(wins)+i] = winOf("behind", -7)
	}
	return all
}

// keysAt is where each key of windows lies.
func keysAt(wins []impl.FraWin) map[*byte]string {
	var keys []string
	for _, w := range wins {
		keys = append(keys, w.Key)
	}
	return namesIn(keys, nil, nil)
}

// wholeWins is windows, with all that lies behind their ends.
func wholeWins(wins []impl.FraWin) []impl.FraWin {
	all := slices.Clone(wins[:cap(wins)])
	for i, w := range all {
		all[i].Seen = w.Seen[:cap(w.Seen)]
	}
	return all
}

// No call changes what is handed in, nor what lies behind its end; no answer shares memory with it, nor two lists of one answer with each other.
func TestWindowsStayAsTheyWere(t *testing.T) {
	r := rand.New(rand.NewSource(83))
	groups := someGroups()
	heard, stayed := 0, 0
	for range 6000 {
		group := groups[r.Intn(len(groups))]
		from, m := group[r.Intn(len(group))], apartFrom(group[r.Intn(len(group))])
		wins := otherWins()[:r.Intn(4)]
		if r.Intn(2) == 0 {
			wins = append(wins, someWin(r, plainlySaid(m.Init, from.Who)))
		}
		wins = apartWins(append(wins, otherWins()[3]))
		f := impl.FraFrame{From: from.Who, Key: strings.Clone(plainlySaid(from.Init, from.Who)), N: 1 + r.Intn(24), Text: strings.Clone("hi")}
		given := namesIn(append(slices.Clone(m.Tree.Keys), m.Init, m.Tag, f.Key, f.Text), nil, m.Own)
		wasM, wasWins := copyOf(m), copyOfWins(wholeWins(wins))
		wasM.Tree.Keys, wasM.Own = slices.Clone(m.Tree.Keys[:cap(m.Tree.Keys)]), slices.Clone(m.Own[:cap(m.Own)])
		got, ok := impl.FraGet(m, wins, f)
		shareNone(t, given, keysAt(wins), keysAt(got))
		want := copyOfWins(got)
		for i := range got {
			turn(got[i].Seen, -1)
			for j := range got[i+1:] {
				if !sameWin(got[i+1+j], want[i+1+j]) {
					t.Fatalf("%v turned with another one", got)
				}
			}
		}
		turn(got, impl.FraWin{})
		isM := m
		isM.Tree.Keys, isM.Own = m.Tree.Keys[:cap(m.Tree.Keys)], m.Own[:cap(m.Own)]
		if !sameMember(isM, wasM) || !sameWins(wholeWins(wins), wasWins) {
			t.Fatalf("%+v and %v turned, and were %+v and %v", isM, wholeWins(wins), wasM, wasWins)
		}
		if ok {
			heard++
		} else {
			stayed++
		}
	}
	if heard < 1000 || stayed < 1000 {
		t.Fatal(heard, stayed)
	}
}

// A window behind a number has new memory, too, whether it is taken or not; so has what is said.
func TestWindowsAndFramesAreNewMemory(t *testing.T) {
	for _, w := range someWins() {
		for _, n := range []int{w.Top, w.Top - 1, w.Top - 8, w.Top + 1, w.Top + 8, 0, 1000} {
			one := apartWins([]impl.FraWin{w})
			was := copyOfWins(wholeWins(one))
			impl.WinOk(one[0])
			got, _ := impl.WinTake(one[0], n)
			shareNone(t, keysAt(one), keysAt([]impl.FraWin{got}))
			turn(got.Seen, -1)
			if !sameWins(wholeWins(one), was) {
				t.Fatalf("%v turned, and was %v", wholeWins(one), was)
			}
		}
	}
	m, text := apartFrom(impl.MemFirst(3, "D1;", "D2;")), strings.Clone("abcd")
	given := namesIn(append(slices.Clone(m.Tree.Keys), m.Init, text), nil, m.Own)
	for range 2 {
		f := says(t, m, 5, text[1:])
		at := unsafe.StringData(text)
		if unsafe.StringData(f.Text) == unsafe.StringData(text[1:]) || unsafe.StringData(f.Text) == at {
			t.Fatal("the text lies in what was handed in")
		}
		shareNone(t, given, namesIn([]string{f.Key, f.Text}, nil, nil))
	}
}
