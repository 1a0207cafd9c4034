package tests

import (
	"math/rand"
	"slices"
	"strings"
	"testing"

	"loop.example/keyward/impl"
)

func TestNumbersOfLines(t *testing.T) {
	if impl.DskMaxLines != 100 {
		t.Fatal(impl.DskMaxLines)
	}
}

// isLine fails unless what happens has a line, and that line is read as it.
func isLine(t *testing.T, e impl.EvEvent, want string) {
	t.Helper()
	if got := impl.DskText(e); got != want {
		t.Fatalf("%q, not %q, of %+v", got, want, e)
	}
	if got, ok := impl.DskEvent(want); !ok || got != asSaid(e) {
		t.Fatalf("%+v and %v, of %q", got, ok, want)
	}
}

// isNoLine fails unless a text is none.
func isNoLine(t *testing.T, line string) {
	t.Helper()
	if got, ok := impl.DskEvent(line); ok || got != (impl.EvEvent{}) {
		t.Fatalf("%+v and %v, of %.60q", got, ok, line)
	}
}

// hasNoLine fails unless what happens has none.
func hasNoLine(t *testing.T, e impl.EvEvent) {
	t.Helper()
	if got := impl.DskText(e); got != "" {
		t.Fatalf("%q, of %+v", got, e)
	}
}

// Promise 52: all that a line can say is read back from its line as it was; by the words of the document alone.
func TestWhatHappensHasALine(t *testing.T) {
	kinds := map[int]int{}
	for _, e := range saidEvents() {
		line := impl.DskText(e)
		if line == "" || len(line) > 30 || line != plainlyWritten(e) {
			t.Fatalf("%q, not %q, of %+v", line, plainlyWritten(e), e)
		}
		if got, ok := impl.DskEvent(line); !ok || got != e {
			t.Fatalf("%+v and %v, of %q, not %+v", got, ok, line, e)
		}
		kinds[e.Kind]++
	}
	if kinds[impl.EvCommit] != 8*9*9 || kinds[impl.EvHear] != 800 || kinds[impl.EvJoin] != 800 || kinds[impl.EvGet] != 800 || kinds[impl.EvSteal] != 8 || kinds[impl.EvSay] < 500 {
		t.Fatal(kinds)
	}
}

// Promise 52: by hand, each Kind, with and without who comes and who goes.
func TestLinesByHand(t *testing.T) {
	isLine(t, goesOn(0, -1, -1), "commit A")
	isLine(t, goesOn(0, 1, -1), "commit A add B")
	isLine(t, goesOn(7, -1, 6), "commit H remove G")
	isLine(t, goesOn(2, 0, 7), "commit C add A remove H")
	isLine(t, goesOn(2, 5, 5), "commit C add F remove F")
	// That it cannot happen makes no difference.
	isLine(t, goesOn(3, 3, 3), "commit D add D remove D")
	isLine(t, hearsAt(0, 0), "hear A 0")
	isLine(t, hearsAt(7, 99), "hear H 99")
	isLine(t, joinsAt(1, 7), "join B 7")
	isLine(t, joinsAt(6, 15), "join G 15")
	isLine(t, isStolenOf(4), "steal E")
	isLine(t, saysText(0, "hi"), "say A hi")
	isLine(t, saysText(5, "z"), "say F z")
	isLine(t, getsAt(2, 4), "get C 4")
	isLine(t, getsAt(3, 40), "get D 40")
}

// Promise 52, what a Kind does not use: it is not in the line, and read as nobody, or nothing.
func TestWhatAKindDoesNotUse(t *testing.T) {
	for _, n := range append(outOf(0, 7), 0, 3, 7, 99) {
		for _, text := range []string{"", "hi", "Hi", "abcdefghi", "\xff"} {
			isLine(t, impl.EvEvent{Kind: impl.EvCommit, Who: 0, Add: 1, Remove: 2, At: n, Text: text}, "commit A add B remove C")
			isLine(t, impl.EvEvent{Kind: impl.EvHear, Who: 1, Add: n, Remove: n, At: 3, Text: text}, "hear B 3")
			isLine(t, impl.EvEvent{Kind: impl.EvJoin, Who: 1, Add: n, Remove: n, At: 3, Text: text}, "join B 3")
			isLine(t, impl.EvEvent{Kind: impl.EvSteal, Who: 1, Add: n, Remove: n, At: n, Text: text}, "steal B")
			isLine(t, impl.EvEvent{Kind: impl.EvSay, Who: 1, Add: n, Remove: n, At: n, Text: "ok"}, "say B ok")
			isLine(t, impl.EvEvent{Kind: impl.EvGet, Who: 1, Add: n, Remove: n, At: 3, Text: text}, "get B 3")
		}
	}
}

// The edges: who comes, and who goes, is told only if that is one; below -1 and past the end it is not.
func TestWhoComesAndGoesInALine(t *testing.T) {
	for _, none := range append(outOf(0, impl.SecMany-1), -1) {
		isLine(t, goesOn(4, none, none), "commit E")
		for one := range impl.SecMany {
			isLine(t, goesOn(4, one, none), "commit E add "+string(rune('A'+one)))
			isLine(t, goesOn(4, none, one), "commit E remove "+string(rune('A'+one)))
		}
	}
}

// The edges: 0 and 99 are told, 100 and below 0 not.
func TestPlacesInALine(t *testing.T) {
	for kind, word := range map[int]string{impl.EvHear: "hear", impl.EvJoin: "join", impl.EvGet: "get"} {
		for at, n := range map[int]string{0: "0", 1: "1", 9: "9", 10: "10", 19: "19", 90: "90", 98: "98", 99: "99"} {
			isLine(t, impl.EvEvent{Kind: kind, Who: 6, At: at}, word+" G "+n)
		}
		for _, at := range outOf(0, 99) {
			hasNoLine(t, impl.EvEvent{Kind: kind, Who: 6, Add: -1, Remove: -1, At: at})
		}
	}
}

// The edges: what may be said, the empty text and the longest one; and what may not.
func TestWhatIsSaidInALine(t *testing.T) {
	for _, text := range someTexts() {
		isLine(t, saysText(3, text), "say D "+text)
	}
	isLine(t, saysText(3, ""), "say D ")
	isLine(t, saysText(3, "abcdefgh"), "say D abcdefgh")
	for _, text := range wrongTexts() {
		hasNoLine(t, saysText(3, text))
		isNoLine(t, "say D "+text)
	}
	isNoLine(t, "say D")
	isNoLine(t, "say D abcdefghi")
}

// Wrong inputs: other Kinds, and who is nobody, have no line.
func TestWhatHasNoLine(t *testing.T) {
	for _, e := range anyOfEach(1, 2) {
		if impl.DskText(e) == "" {
			t.Fatalf("%+v has none", e)
		}
		for _, who := range outOf(0, impl.SecMany-1) {
			other := e
			other.Who = who
			hasNoLine(t, other)
		}
		for _, kind := range append(outOf(impl.EvCommit, impl.EvGet), 0, 7) {
			other := e
			other.Kind = kind
			hasNoLine(t, other)
		}
	}
	hasNoLine(t, impl.EvEvent{})
}

// Wrong inputs: texts that are nearly lines are none; by the words of the document, too.
func TestTextsThatAreNoLines(t *testing.T) {
	for _, line := range wrongLines() {
		if _, ok := plainlyRead(line); ok {
			t.Fatalf("%q is one", line)
		}
		isNoLine(t, line)
	}
	for _, line := range someLines() {
		e, ok := plainlyRead(line)
		if !ok {
			t.Fatalf("%q is none", line)
		}
		isLine(t, e, line)
		for _, more := range []string{" ", "  ", "\n", "\r", "\t", "\x00", "\xff", "\u00a0"} {
			isNoLine(t, line+more)
			isNoLine(t, more+line)
			for at := range len(line) {
				if line[at] == ' ' {
					isNoLine(t, line[:at]+more+line[at:])
					isNoLine(t, line[:at+1]+more+line[at+1:])
				}
			}
		}
		isNoLine(t, strings.ToUpper(line))
		isNoLine(t, strings.ToLower(line))
		isNoLine(t, strings.TrimSpace(strings.ReplaceAll(line, " ", "")))
		isNoLine(t, line+"\n"+line)
		isNoLine(t, line+line)
	}
}

// The edges: a text of 30 bytes, and one of 31, and one of any size; however it begins, none is a line.
func TestLongTextsAreNoLines(t *testing.T) {
	for _, line := range append(someLines(), "") {
		for _, more := range []string{" ", "0", "a", "A", "\xff", " add B", " remove C"} {
			for _, size := range []int{24, 29, 30, 31, 32, 64, 1000, 1 << 20} {
				long := (line + strings.Repeat(more, size))[:size]
				isNoLine(t, long)
				isNoLine(t, long[len(line):]+line)
			}
		}
	}
}

// Promise 52: of any text, near a line or not, by the words of the document alone; what is read has that line.
func TestWhatIsReadHasThatLine(t *testing.T) {
	r := rand.New(rand.NewSource(121))
	right, wrong := 0, 0
	look := func(line string) {
		t.Helper()
		want, is := plainlyRead(line)
		got, ok := impl.DskEvent(line)
		if ok != is || got != want {
			t.Fatalf("%+v and %v, not %+v and %v, of %q", got, ok, want, is, line)
		}
		if !ok {
			wrong++
			return
		}
		right++
		if again := impl.DskText(got); again != line {
			t.Fatalf("%q, of %q", again, line)
		}
	}
	for _, line := range someLines() {
		for _, other := range edits(line, " \x00\n09-+ABHIabhz\xff") {
			look(other)
		}
	}
	pieces := []string{"commit", "hear", "join", "get", "steal", "say", "add", "remove", "A", "B", "H", "I", "a", "0", "7", "10", "99", "100", "hi", "", " ", "-1"}
	for range 200000 {
		words := []string{pieces[r.Intn(6)], pieces[8+r.Intn(4)]}
		for range r.Intn(5) {
			words = append(words, pieces[r.Intn(len(pieces))])
		}
		look(strings.Join(words, " "))
	}
	if right < 5000 || wrong < 5000 {
		t.Fatal(right, wrong)
	}
}

// Of any numbers and texts, the greatest and the least there are among them: by the words of the document alone.
func TestWhateverIsWritten(t *testing.T) {
	r := rand.New(rand.NewSource(122))
	numbers := append(outOf(0, 7), outOf(0, 99)...)
	for n := range 9 {
		numbers = append(numbers, n, n, n, n)
	}
	numbers = append(numbers, 10, 50, 98, 99)
	texts := append(someTexts(), wrongTexts()[:40]...)
	any := func() int { return numbers[r.Intn(len(numbers))] }
	none, some := 0, 0
	for range 200000 {
		e := impl.EvEvent{Kind: r.Intn(8), Who: r.Intn(8), Add: any(), Remove: any(), At: any(), Text: texts[r.Intn(len(texts))]}
		if r.Intn(8) == 0 {
			e.Kind, e.Who = any(), any()
		}
		line := impl.DskText(e)
		if want := plainlyWritten(e); line != want {
			t.Fatalf("%q, not %q, of %+v", line, want, e)
		}
		if line == "" {
			none++
			continue
		}
		some++
		if got, ok := impl.DskEvent(line); !ok || got != asSaid(e) {
			t.Fatalf("%+v and %v, of %q and %+v", got, ok, line, e)
		}
	}
	if none < 10000 || some < 10000 {
		t.Fatal(none, some)
	}
}

// Promise 83: lines that differ say what differs; all lines but of what is said, and of that some.
func TestTwoThingsThatHappenHaveTwoLines(t *testing.T) {
	lineOf, eventOf := map[impl.EvEvent]string{}, map[string]impl.EvEvent{}
	for _, e := range saidEvents() {
		line := impl.DskText(e)
		read, ok := impl.DskEvent(line)
		if !ok {
			t.Fatalf("%q, of %+v", line, e)
		}
		if other, had := lineOf[read]; had && other != line {
			t.Fatalf("%q and %q are %+v", other, line, read)
		}
		if other, had := eventOf[line]; had && other != e {
			t.Fatalf("%+v and %+v are %q", other, e, line)
		}
		lineOf[read], eventOf[line] = line, e
	}
	if len(lineOf) != len(eventOf) || len(lineOf) < 3500 {
		t.Fatal(len(lineOf), len(eventOf))
	}
	var all []impl.EvEvent
	for _, line := range someLines() {
		e, ok := impl.DskEvent(line)
		if !ok || slices.Contains(all, e) {
			t.Fatalf("%+v and %v, of %q", e, ok, line)
		}
		all = append(all, e)
	}
}

// No answer shares memory with what is handed in, nor is anything kept.
func TestLinesLieApart(t *testing.T) {
	for range 2 {
		for _, line := range someLines() {
			line = strings.Clone(line)
			e, ok := impl.DskEvent(line)
			if !ok {
				t.Fatalf("%q", line)
			}
			lieApart(t, line, e, impl.DskText(e), impl.DskText(e))
			if want, _ := plainlyRead(line); e != want {
				t.Fatalf("%+v, of %q", e, line)
			}
		}
		for _, line := range wrongLines() {
			line = strings.Clone(line)
			e, _ := impl.DskEvent(line)
			lieApart(t, line, e)
		}
	}
}
