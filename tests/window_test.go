package tests

import (
	"math/rand"
	"slices"
	"testing"

	"loop.example/keyward/impl"
)

// takes is a window behind a number; the test fails if it does not take it, or not as the document says.
func takes(t *testing.T, what string, w impl.FraWin, n int) impl.FraWin {
	t.Helper()
	got, ok := impl.WinTake(w, n)
	if want, may := plainlyTake(w, n); !ok || !may || !sameWin(got, want) || !impl.WinOk(got) {
		t.Fatalf("%s: %v and %v, not %v and %v, of %v and %d", what, got, ok, want, may, w, n)
	}
	return got
}

// leaves fails unless a window does not take a number, and is as it is.
func leaves(t *testing.T, what string, w impl.FraWin, n int) {
	t.Helper()
	if got, ok := impl.WinTake(w, n); ok || !sameWin(got, w) {
		t.Fatalf("%s: %v and %v, of %v and %d", what, got, ok, w, n)
	}
}

// numbersNear is all numbers near another one, near the ends, and by leaps away.
func numbersNear(top int) []int {
	all := []int{1, 2, 3, impl.FraMost - 2, impl.FraMost - 1, impl.FraMost}
	for n := top - 18; n <= top+18; n++ {
		all = append(all, n)
	}
	for _, leap := range []int{32, 63, 64, 65, 128, 256, 512} {
		all = append(all, top-leap, top+leap)
	}
	return slices.DeleteFunc(all, func(n int) bool { return n < 1 || n > impl.FraMost })
}

// Promise 4: all windows of some greatest numbers, with all numbers that may make a difference.
func TestNothingIsTakenTwice(t *testing.T) {
	for _, w := range someWins() {
		for _, n := range numbersNear(w.Top) {
			got, ok := impl.WinTake(w, n)
			if want := !slices.Contains(w.Seen, n) && n > w.Top-impl.FraWide; ok != want {
				t.Fatalf("%v, of %v and %d", ok, w, n)
			}
			if !ok {
				if !sameWin(got, w) {
					t.Fatalf("%v, of %v and %d", got, w, n)
				}
				continue
			}
			if got.Key != w.Key || got.Top != max(w.Top, n) || !slices.Contains(got.Seen, n) || !impl.WinOk(got) {
				t.Fatalf("%v, of %v and %d", got, w, n)
			}
			var want []int
			for _, had := range w.Seen {
				if had > got.Top-impl.FraWide {
					want = append(want, had)
				}
			}
			rest := slices.DeleteFunc(slices.Clone(got.Seen), func(had int) bool { return had == n })
			if !slices.Equal(rest, want) {
				t.Fatalf("%v, of %v and %d", got, w, n)
			}
			leaves(t, "once more", got, n)
		}
	}
}

// Promise 4, by hand: what comes twice, and what comes too late.
func TestWindowsByHand(t *testing.T) {
	look := func(w impl.FraWin, top int, seen ...int) {
		t.Helper()
		if w.Key != "mCA1;" || w.Top != top || !slices.Equal(w.Seen, seen) {
			t.Fatal(w)
		}
	}
	w := takes(t, "by hand", winOf("mCA1;", 10), 12)
	look(w, 12, 12, 10)
	w = takes(t, "between", w, 11)
	look(w, 12, 12, 11, 10)
	leaves(t, "FraWide behind", w, 4)
	leaves(t, "far behind", w, 1)
	w = takes(t, "just nearer", w, 5)
	look(w, 12, 12, 11, 10, 5)
	w = takes(t, "one further", w, 13)
	look(w, 13, 13, 12, 11, 10)
	leaves(t, "let go", w, 5)
	look(takes(t, "just not over all", w, 20), 20, 20, 13)
	look(takes(t, "over all", w, 21), 21, 21)
	look(takes(t, "to one with the bit of another one", w, 13+8), 21, 21)
	look(takes(t, "by twice FraWide", w, 13+16), 29, 29)
	look(takes(t, "to the end", w, impl.FraMost), 999, 999)
	w = winOf("mCA1;", 8)
	for n := 1; n < 8; n++ {
		w = takes(t, "all behind", w, n)
	}
	look(w, 8, 8, 7, 6, 5, 4, 3, 2, 1)
	look(takes(t, "full", w, 9), 9, 9, 8, 7, 6, 5, 4, 3, 2)
	look(takes(t, "full, and one left", w, 15), 15, 15, 8)
	look(takes(t, "full, and none left", w, 16), 16, 16)
	w = winOf("mCA1;", 20)
	for n := 19; n > 12; n-- {
		w = takes(t, "falling", w, n)
	}
	look(w, 20, 20, 19, 18, 17, 16, 15, 14, 13)
	leaves(t, "falling too far", w, 12)
	w = winOf("mCA1;", impl.FraMost)
	leaves(t, "too far behind the last one", w, impl.FraMost-8)
	look(takes(t, "behind the last one", w, impl.FraMost-7), 999, 999, 992)
}

// Promise 4: a number that is none, or a window that is not ok, comes to nothing.
func TestWindowsThatTakeNothing(t *testing.T) {
	nothing := func(w impl.FraWin, n int) {
		t.Helper()
		if got, ok := impl.WinTake(w, n); ok || !sameWin(got, impl.FraWin{}) {
			t.Fatalf("%v and %v, of %v and %d", got, ok, w, n)
		}
	}
	for _, w := range wrongWins() {
		for _, n := range []int{-1, 0, 1, 2, 4, 5, 6, 13, 20, 998, 999, 1000} {
			nothing(w, n)
		}
	}
	for _, w := range []impl.FraWin{winOf("mAA1;", 1), winOf("mAA1;", 5, 3, 1), winOf("mAA1;", 8, 7, 6, 5, 4, 3, 2, 1), winOf("mAA1;", 999), winOf("mAA1;", 999, 998, 992)} {
		for _, n := range outOf(1, impl.FraMost) {
			nothing(w, n)
		}
	}
}

// Promise 76: rising, one by one, and by leaps.
func TestInOrderAllIsTaken(t *testing.T) {
	for leap := 1; leap <= 20; leap++ {
		w := winOf("mAA1;", 1)
		for n := 1 + leap; n <= impl.FraMost; n += leap {
			w = takes(t, "rising", w, n)
			leaves(t, "once more", w, n)
			leaves(t, "the one ahead once more", w, n-leap)
		}
	}
	r := rand.New(rand.NewSource(74))
	for range 200 {
		w := winOf("mAA1;", 1+r.Intn(20))
		for n := w.Top + 1 + r.Intn(12); n <= impl.FraMost; n += 1 + r.Intn(12) {
			w = takes(t, "rising", w, n)
		}
	}
}

// Promise 76: FraWide numbers, in any order, each once.
func TestInAnyOrderEachIsTakenOnce(t *testing.T) {
	r := rand.New(rand.NewSource(75))
	for round := range 3000 {
		low := []int{1, 2, 8, 9, 100, 991, 992}[round%7]
		order := r.Perm(impl.FraWide)
		w := winOf("mAA1;", low+order[0])
		for i, back := range order[1:] {
			w = takes(t, "in any order", w, low+back)
			for _, had := range order[:i+2] {
				leaves(t, "once more", w, low+had)
			}
		}
		want := []int{low + 7, low + 6, low + 5, low + 4, low + 3, low + 2, low + 1, low}
		if w.Top != low+7 || !slices.Equal(w.Seen, want) {
			t.Fatal(w, order)
		}
	}
}

// Promises 4 and 76: on and on, each that has not come, and is not FraWide behind the greatest, is taken once, and nothing else is.
func TestEachIsTakenOnceOnAndOn(t *testing.T) {
	r := rand.New(rand.NewSource(76))
	took, left := 0, 0
	for range 300 {
		top := 1 + r.Intn(30)
		w, came := winOf("mAA1;", top), map[int]int{top: 1}
		for range 200 {
			n := min(max(top-10+r.Intn(14), 1), impl.FraMost)
			if r.Intn(40) == 0 {
				n = min(top+r.Intn(60), impl.FraMost)
			}
			if came[n] > 0 || n <= top-impl.FraWide {
				leaves(t, "on and on", w, n)
				left++
				continue
			}
			w = takes(t, "on and on", w, n)
			came[n]++
			top = max(top, n)
			took++
		}
	}
	if took < 10000 || left < 10000 {
		t.Fatal(took, left)
	}
}

// Promise 77.
func TestAWindowsNumbersFall(t *testing.T) {
	for _, w := range someWins() {
		if !impl.WinOk(w) {
			t.Fatalf("%v is not ok", w)
		}
		for i, n := range w.Seen {
			if n > w.Top || w.Top-n >= impl.FraWide || i > 0 && n >= w.Seen[i-1] {
				t.Fatal(w)
			}
		}
		twice := w
		twice.Seen = slices.Insert(slices.Clone(w.Seen), 0, w.Top)
		behindAll := w
		behindAll.Seen = append(slices.Clone(w.Seen), w.Top)
		without := w
		without.Seen = w.Seen[1:]
		for _, no := range []impl.FraWin{twice, behindAll, without} {
			if impl.WinOk(no) {
				t.Fatalf("%v is ok", no)
			}
		}
	}
}

// Promise 77: windows that are not ok.
func TestWindowsThatAreNotOk(t *testing.T) {
	for _, w := range wrongWins() {
		if impl.WinOk(w) || plainlyWin(w) {
			t.Errorf("%v is ok", w)
		}
	}
}

// Promise 77: whatever is turned of a window, it is ok or not by the words of the document.
func TestWhichWindowsAreOk(t *testing.T) {
	r := rand.New(rand.NewSource(77))
	wins, ok := someWins(), 0
	for range 60000 {
		w := copyOfWin(wins[r.Intn(len(wins))])
		at := r.Intn(len(w.Seen))
		switch r.Intn(8) {
		case 0:
			w.Seen[at] += r.Intn(5) - 2
		case 1:
			w.Seen = slices.Insert(w.Seen, at, w.Top-r.Intn(12)+1)
		case 2:
			w.Seen = slices.Delete(w.Seen, at, at+1)
		case 3:
			w.Top += r.Intn(5) - 2
		case 4:
			w.Seen = append(w.Seen, w.Seen[len(w.Seen)-1]-1-r.Intn(3))
		case 5:
			w.Top, w.Seen[0] = w.Top+1, w.Seen[0]+1
		case 6:
			w.Key = []string{"", "mBB1;", "kA1;", "mIA1;"}[r.Intn(4)]
		}
		got := impl.WinOk(w)
		if got != plainlyWin(w) {
			t.Fatalf("%v, of %v", got, w)
		}
		if got {
			ok++
		}
	}
	if ok < 15000 || ok > 50000 {
		t.Fatal(ok)
	}
}
