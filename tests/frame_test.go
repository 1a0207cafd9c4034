package tests

import (
	"math/rand"
	"testing"

	"loop.example/keyward/impl"
)

func TestNumbersOfWhatIsSaid(t *testing.T) {
	if got := [...]int{impl.FraMost, impl.FraWide, impl.FraLong}; got != [...]int{999, 8, 8} {
		t.Fatal(got)
	}
}

// Promise 31.
func TestWhatMayBeSaidMayBeSaidInPart(t *testing.T) {
	for _, s := range someTexts() {
		for end := 0; end <= len(s); end++ {
			if !impl.FraText(s[:end]) {
				t.Errorf("%q may not be said, of %q", s[:end], s)
			}
		}
	}
	r := rand.New(rand.NewSource(71))
	for range 2000 {
		b := make([]byte, r.Intn(impl.FraLong+1))
		for i := range b {
			b[i] = byte('a' + r.Intn(26))
		}
		for end := range len(b) + 1 {
			if !impl.FraText(string(b[:end])) {
				t.Fatalf("%q may not be said, of %q", b[:end], b)
			}
		}
	}
}

// Promise 31: what is too long, or has another sign in it, wherever, may not be said.
func TestWhatMayNotBeSaid(t *testing.T) {
	for _, s := range wrongTexts() {
		if impl.FraText(s) {
			t.Errorf("%q may be said", s)
		}
	}
	r := rand.New(rand.NewSource(72))
	for range 20000 {
		b := make([]byte, r.Intn(11))
		for i := range b {
			b[i] = byte('a' + r.Intn(26))
		}
		if len(b) > 0 && r.Intn(2) == 0 {
			b[r.Intn(len(b))] = byte(r.Intn(256))
		}
		if got := impl.FraText(string(b)); got != plainlyText(string(b)) {
			t.Fatalf("%v, of %q", got, b)
		}
	}
}

// says is what one says; the test fails if it does not, or not as promise 32 says.
func says(t *testing.T, m impl.MemMember, n int, text string) impl.FraFrame {
	t.Helper()
	f, ok := impl.FraMake(m, n, text)
	want := impl.FraFrame{From: m.Who, Key: plainlySaid(m.Init, m.Who), N: n, Text: text}
	if !ok || f != want || f.Key != impl.MakSay(m.Init, m.Who) || !impl.FraOk(f) {
		t.Fatalf("%+v and %v, of %+v, %d and %q", f, ok, m, n, text)
	}
	return f
}

// saysNothing fails unless nothing is said.
func saysNothing(t *testing.T, what string, m impl.MemMember, n int, text string) {
	t.Helper()
	if f, ok := impl.FraMake(m, n, text); ok || f != (impl.FraFrame{}) {
		t.Fatalf("%s: %+v and %v, of %+v, %d and %q", what, f, ok, m, n, text)
	}
}

// Promise 32.
func TestWhatOneSaysIsShutWithItsOwn(t *testing.T) {
	texts := someTexts()
	numbers := []int{1, 2, 7, 8, 9, 500, impl.FraMost - 1, impl.FraMost}
	for i, m := range someMembers() {
		for j, n := range numbers {
			says(t, m, n, texts[(i+j)%len(texts)])
		}
	}
	m := impl.MemFirst(3, "D1;", "D2;")
	for n := 1; n <= impl.FraMost; n++ {
		says(t, m, n, texts[n%len(texts)])
	}
	for _, text := range texts {
		says(t, m, 1, text)
	}
	if f := says(t, m, 7, "hi"); f != (impl.FraFrame{From: 3, Key: "mDD2;", N: 7, Text: "hi"}) {
		t.Fatalf("%+v", f)
	}
}

// Promise 32: who is not ok, or is in none, says nothing; and what may not be said, by text or number, nobody says.
func TestWhoSaysNothing(t *testing.T) {
	for _, m := range append(wrongMembers(), impl.MemMember{}) {
		saysNothing(t, "not ok, or in none", m, 1, "hi")
	}
	for _, m := range []impl.MemMember{impl.MemFirst(0, "A1;", "A2;"), oneOf(5, groupSecrets([]int{0, 1, 5, 7}))} {
		says(t, m, 1, "hi")
		for _, n := range outOf(1, impl.FraMost) {
			saysNothing(t, "no number", m, n, "hi")
		}
		for _, text := range wrongTexts() {
			saysNothing(t, "no text", m, 1, text)
		}
	}
}

// Promise 32: what one says with needs two bytes more than what the group has.
func TestJustSoLongWhatTheGroupHasIsSaidWith(t *testing.T) {
	for _, m := range []impl.MemMember{impl.MemFirst(0, "A1;", "A2;"), oneOf(7, groupSecrets([]int{0, 1, 5, 7}))} {
		for _, size := range []int{3, 150, 297, 298} {
			m.Init = nameOfSize(size)
			says(t, m, impl.FraMost, "hi")
		}
		for _, size := range []int{299, 300} {
			m.Init = nameOfSize(size)
			if !impl.MemOk(m) {
				t.Fatalf("%+v is not ok", m)
			}
			saysNothing(t, "too long", m, 1, "hi")
		}
		m.Init = nameOfSize(301)
		saysNothing(t, "no name", m, 1, "hi")
	}
}

// someFrames is frames that are ok, of each one, made from what is made in all ways.
func someFrames() []impl.FraFrame {
	var all []impl.FraFrame
	texts := someTexts()
	for i, s := range someNames() {
		if len(s) > impl.SecLong-2 {
			continue
		}
		who := i % impl.SecMany
		all = append(all, impl.FraFrame{From: who, Key: plainlySaid(s, who), N: 1 + i*37%impl.FraMost, Text: texts[i%len(texts)]})
	}
	return append(all,
		impl.FraFrame{From: 0, Key: "mAA1;", N: 1}, impl.FraFrame{From: 7, Key: "mHA1;", N: impl.FraMost, Text: "abcdefgh"},
		impl.FraFrame{From: 2, Key: plainlySaid(nameOfSize(298), 2), N: impl.FraMost, Text: "abcdefgh"},
		// What is said with may be made from what another one says with: only the last who counts.
		impl.FraFrame{From: 1, Key: "mBmAA1;", N: 3, Text: "x"})
}

// Promise 33.
func TestAFrameIsShutWithWhatWhoSaysItSaysWith(t *testing.T) {
	for _, f := range someFrames() {
		if !impl.FraOk(f) {
			t.Fatalf("%+v is not ok", f)
		}
		if how := impl.SecMade(f.Key); how.Op != impl.SecSay || how.Who != f.From {
			t.Fatalf("%+v, of %+v", how, f)
		}
		for who := -2; who < impl.SecMany+2; who++ {
			other := f
			other.From = who
			if got := impl.FraOk(other); got != (who == f.From) {
				t.Fatalf("%v, of %+v", got, other)
			}
		}
	}
}

// Promise 33: with another key, number or text a frame is not ok either.
func TestFramesThatAreNotOk(t *testing.T) {
	for _, f := range []impl.FraFrame{{From: 0, Key: "mAA1;", N: 1, Text: "hi"}, {From: 7, Key: "mHeA2;nnnnB3;", N: 999, Text: "abcdefgh"}, {From: 3, Key: "mDmBA1;", N: 500}} {
		if !impl.FraOk(f) {
			t.Fatalf("%+v is not ok", f)
		}
		for _, no := range wrongFrames(f) {
			if impl.FraOk(no) || plainlyFrame(no) {
				t.Errorf("%+v is ok", no)
			}
		}
	}
}

// Promise 33: whatever is turned of a frame, it is ok or not by the words of the document.
func TestWhichFramesAreOk(t *testing.T) {
	r := rand.New(rand.NewSource(73))
	frames, no, ok := someFrames(), noNames(), 0
	for range 40000 {
		f := frames[r.Intn(len(frames))]
		for range r.Intn(3) {
			other := frames[r.Intn(len(frames))]
			switch r.Intn(5) {
			case 0:
				f.From = r.Intn(10) - 1
			case 1:
				f.Key = []string{other.Key, "k" + f.Key, f.Key + other.Key, no[r.Intn(len(no))]}[r.Intn(4)]
			case 2:
				f.N = r.Intn(1010) - 3
			case 3:
				f.Text += other.Text
			case 4:
				f.From, f.Key = other.From, other.Key
			}
		}
		got := impl.FraOk(f)
		if got != plainlyFrame(f) {
			t.Fatalf("%v, of %+v", got, f)
		}
		if got {
			ok++
		}
	}
	if ok < 10000 || ok > 35000 {
		t.Fatal(ok)
	}
}
