package tests

import (
	"fmt"
	"math/rand"
	"slices"
	"strings"
	"testing"

	"loop.example/keyward/impl"
)

// runs fails unless a run by lines is some lines; it is the run by what they say, with a line for each other one.
func runs(t *testing.T, what, who string, lines []string, want ...string) {
	t.Helper()
	if got := impl.DskRun(who, lines); !slices.Equal(got, want) {
		t.Fatalf("%s: %q, not %q, of %q", what, got, want, lines)
	}
	if !slices.Equal(plainlyRan(who, lines), want) {
		t.Fatalf("%s: plainly %q, not %q, of %q", what, plainlyRan(who, lines), want, lines)
	}
}

// The document's example.
func TestTheExample(t *testing.T) {
	lines := strings.Split(`commit A add B
join B 0
commit A add C
hear B 1
join C 1
say A hi
get B 0
get C 0
steal B
say C ok
commit C
hear A 2
hear B 2
say A a
commit B
hear A 3
hear C 3
say C b
commit A remove B
hear C 4
hear B 4
say C c
get A 4
get A 4`, "\n")
	want := strings.Split(`A epoch 5 of AC behind A3;A4;C3;B3;A5;
C epoch 5 of AC behind A3;A4;C3;B3;A5;
commits 5 wait 0
B hears A 1 hi
C hears A 1 hi
A hears C 3 c
spy hears 0
spy hears 1
spy hears 2`, "\n")
	runs(t, "the example", "A", lines, want...)
	// With lines between that are none it is the same behind these.
	mixed := slices.Insert(slices.Insert(slices.Clone(lines), 24, "get A 4 "), 0, "commit B remove A add B", "")
	runs(t, "and lines that are none", "A", mixed, append([]string{"line 1", "line 2", "line 27"}, want...)...)
}

// Promise 54: lines that all are ones, that none is one, and both together, by hand.
func TestRunsByHand(t *testing.T) {
	alone := []string{"B epoch 0 of B behind ", "commits 0 wait 0"}
	runs(t, "no lines", "B", nil, alone...)
	runs(t, "no lines", "B", []string{}, alone...)
	runs(t, "none is one", "B", []string{"", "halt", "commit I", "say B", "hear B 01"}, append([]string{"line 1", "line 2", "line 3", "line 4", "line 5"}, alone...)...)
	runs(t, "what cannot happen is a line all the same", "B", []string{"commit A", "hear B 0", "join A 99", "get B 3", "steal H", "say C hi", "commit B add B", "commit B remove C"}, alone...)
	runs(t, "all are ones", "B", []string{"commit B add A", "join A 0", "say A ", "get B 0", "steal B"},
		"A epoch 1 of AB behind B3;", "B epoch 1 of AB behind B3;", "commits 1 wait 0", "B hears A 1 ", "spy hears 0")
	runs(t, "both", "B", []string{"x", "commit B add A", "join A 00", "join A 0", "say A", "say A ", "get B 0 ", "get B 0", "Steal B"},
		"line 1", "line 3", "line 5", "line 7", "line 9", "A epoch 1 of AB behind B3;", "B epoch 1 of AB behind B3;", "commits 1 wait 0", "B hears A 1 ")
	runs(t, "one after the other", "H", []string{"join G 0", "commit H add G", "commit H"}, "H epoch 2 of GH behind H3;H4;", "commits 2 wait 1")
}

// Promise 54: whatever lines there are: a line for each that is none, and then the board of the world behind the others.
func TestARunByLines(t *testing.T) {
	r := rand.New(rand.NewSource(131))
	heard, opened, none := 0, 0, 0
	for i := range 400 {
		first := r.Intn(8)
		lines := linesOf(r, first, []int{0, 1, 10, 40, 99, 100}[r.Intn(6)], []float64{0, 0, 0.1, 0.5, 1}[i%5])
		who := string("ABCDEFGH"[first])
		got := impl.DskRun(who, lines)
		if want := plainlyRan(who, lines); !slices.Equal(got, want) {
			t.Fatalf("%q, not %q, of %q", got, want, lines)
		}
		var events []impl.EvEvent
		var faults []string
		for at, line := range lines {
			if e, ok := impl.DskEvent(line); ok {
				events = append(events, e)
			} else {
				faults = append(faults, fmt.Sprintf("line %d", at+1))
			}
		}
		w := impl.GrpRun(impl.GrpNew(first), events)
		if want := append(faults, impl.DskBoard(w)...); !slices.Equal(got, want) {
			t.Fatalf("%q, not %q, of %q", got, want, lines)
		}
		heard += len(w.Told)
		opened += len(impl.SpyHears(w))
		none += len(faults)
	}
	if heard < 500 || opened < 500 || none < 500 {
		t.Fatal(heard, opened, none)
	}
}

// The edges: DskMaxLines lines, and one more; all of them happen, as EvMaxRun is more than these.
func TestHowManyLinesThereMayBe(t *testing.T) {
	if impl.DskMaxLines >= impl.EvMaxRun {
		t.Fatal("so many lines are too many for a run")
	}
	for _, line := range []string{"say A x", "steal A", "x", "", "commit A", strings.Repeat("x", 1<<16)} {
		for _, many := range []int{impl.DskMaxLines - 1, impl.DskMaxLines} {
			lines := slices.Repeat([]string{line}, many)
			lines[many-1] = "commit A"
			got := impl.DskRun("A", lines)
			if want := plainlyRan("A", lines); !slices.Equal(got, want) || slices.Equal(got, []string{"long"}) {
				t.Fatalf("%q, not %q, of %d", got, want, many)
			}
		}
		for _, many := range []int{impl.DskMaxLines + 1, impl.DskMaxLines + 2, impl.EvMaxRun, impl.EvMaxRun + 1, 100000} {
			runs(t, "too many", "A", slices.Repeat([]string{line}, many), "long")
		}
	}
	// The last one of just so many counts, and its number has three digits.
	lines := slices.Repeat([]string{"steal B"}, 100)
	lines[98], lines[99] = "commit A", "commit  A"
	runs(t, "just so many", "A", lines, "line 100", "A epoch 1 of A behind A3;", "commits 1 wait 0")
}

// The edges: who is a letter past the last one, more letters than one, none, or a byte that is no letter; that is asked ahead of how many lines there are.
func TestWhoBeginsARun(t *testing.T) {
	for who := range impl.SecMany {
		letter := string("ABCDEFGH"[who])
		runs(t, "one", letter, []string{"steal " + letter}, letter+" epoch 0 of "+letter+" behind ", "commits 0 wait 0")
		runs(t, "one, and too many lines", letter, make([]string, 101), "long")
	}
	others := []string{"", "I", "J", "Z", "@", "a", "b", "h", "0", "1", " ", "\n", "\x00", "AB", "AA", "A ", " A", "A\n", "A\x00", "ABCDEFGH", "-1", ";", "A1;", "\u0391", "\u00c4", "\uff21", strings.Repeat("A", 100000)}
	for b := range 256 {
		if b < 'A' || b > 'H' {
			others = append(others, string([]byte{byte(b)}), string([]byte{'A', byte(b)}))
		}
	}
	for _, who := range others {
		runs(t, "nobody", who, nil, "nobody")
		runs(t, "nobody", who, []string{"commit A", "x"}, "nobody")
		runs(t, "nobody, and too many lines", who, make([]string, 101), "nobody")
	}
}

// No call changes what is handed in, nor what lies behind its end; no answer shares memory with it, nor two lines of one answer with each other; and none is kept.
func TestRunsLieApart(t *testing.T) {
	r := rand.New(rand.NewSource(132))
	for range 60 {
		first := r.Intn(8)
		lines := apartLines(linesOf(r, first, r.Intn(100), 0.2))
		had := slices.Clone(lines[:cap(lines)])
		who := strings.Clone(string("ABCDEFGH"[first]))
		for range 2 {
			got := impl.DskRun(who, lines)
			lieApart(t, who, lines, got, impl.DskRun(who, lines))
			if !slices.Equal(lines[:cap(lines)], had) {
				t.Fatalf("%q turned, and was %q", lines[:cap(lines)], had)
			}
			if !slices.Equal(got, plainlyRan(who, lines)) {
				t.Fatalf("%q, of %q", got, lines)
			}
			turn(got, "turned")
		}
	}
	for range 2 {
		who := strings.Clone("nobody")
		nobody, long := impl.DskRun(who, nil), impl.DskRun("A", make([]string, 101))
		lieApart(t, who, nobody, long, impl.DskRun(who, nil), impl.DskRun("A", make([]string, 101)))
		turn(nobody, "turned")
		turn(long, "turned")
	}
}
