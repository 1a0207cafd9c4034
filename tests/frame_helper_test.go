package tests

import (
	"math"
	"regexp"
	"slices"
	"strings"

	"loop.example/keyward/impl"
)

var (
	plainText = regexp.MustCompile(`^[a-z]{0,8}$`)
	plainSay  = regexp.MustCompile(`^m[A-H]`)
)

// plainlyText is whether a text may be said.
func plainlyText(s string) bool {
	return plainText.MatchString(s)
}

// plainlySay is whether a text is a name made as SecSay.
func plainlySay(s string) bool {
	return plainlyName(s) && plainSay.MatchString(s)
}

// plainlyFrame is whether a frame is ok, by the words of the document.
func plainlyFrame(f impl.FraFrame) bool {
	return f.From >= 0 && f.From <= 7 && plainlySay(f.Key) && f.Key[1] == "ABCDEFGH"[f.From] && f.N >= 1 && f.N <= 999 && plainlyText(f.Text)
}

// plainlyWin is whether a window is ok, by the words of the document: there is just one list that has these numbers, and falls.
func plainlyWin(w impl.FraWin) bool {
	if !plainlySay(w.Key) || w.Top < 1 || w.Top > 999 || !slices.Contains(w.Seen, w.Top) {
		return false
	}
	var falls []int
	for n := w.Top; n > w.Top-8 && n > 0; n-- {
		if slices.Contains(w.Seen, n) {
			falls = append(falls, n)
		}
	}
	return slices.Equal(falls, w.Seen)
}

// plainlyTake is a window that has a number, too, by the words of the document.
func plainlyTake(w impl.FraWin, n int) (impl.FraWin, bool) {
	if !plainlyWin(w) || n < 1 || n > 999 {
		return impl.FraWin{}, false
	}
	if slices.Contains(w.Seen, n) || n <= w.Top-8 {
		return w, false
	}
	all := append(slices.Clone(w.Seen), n)
	slices.Sort(all)
	slices.Reverse(all)
	top := all[0]
	return impl.FraWin{Key: w.Key, Top: top, Seen: slices.DeleteFunc(all, func(n int) bool { return n <= top-8 })}, true
}

// plainlyGet is windows of one behind a frame, by the words of the document.
func plainlyGet(m impl.MemMember, wins []impl.FraWin, f impl.FraFrame) ([]impl.FraWin, bool) {
	if !plainlyOk(m) {
		return nil, false
	}
	for i, w := range wins {
		same := func(other impl.FraWin) bool { return other.Key == w.Key }
		if !plainlyWin(w) || slices.IndexFunc(wins, same) != i {
			return nil, false
		}
	}
	if !m.In || !plainlyFrame(f) || f.From == m.Who || m.Tree.Keys[ownOf[f.From]] == "" || f.Key != plainlySaid(m.Init, f.From) {
		return wins, false
	}
	at := slices.IndexFunc(wins, func(w impl.FraWin) bool { return w.Key == f.Key })
	if at < 0 {
		return append(slices.Clone(wins), impl.FraWin{Key: f.Key, Top: f.N, Seen: []int{f.N}}), true
	}
	behind := slices.Clone(wins)
	took := false
	behind[at], took = plainlyTake(wins[at], f.N)
	return behind, took
}

// plainlySaid is the name of what one says with, from what a group has.
func plainlySaid(init string, who int) string {
	return "m" + string("ABCDEFGH"[who]) + init
}

func sameWin(a, b impl.FraWin) bool {
	return a.Key == b.Key && a.Top == b.Top && slices.Equal(a.Seen, b.Seen)
}

func sameWins(a, b []impl.FraWin) bool {
	return slices.EqualFunc(a, b, sameWin)
}

func copyOfWin(w impl.FraWin) impl.FraWin {
	w.Seen = slices.Clone(w.Seen)
	return w
}

func copyOfWins(wins []impl.FraWin) []impl.FraWin {
	all := slices.Clone(wins)
	for i, w := range all {
		all[i] = copyOfWin(w)
	}
	return all
}

// winOf is a window with some numbers, the first of which is the greatest.
func winOf(key string, seen ...int) impl.FraWin {
	return impl.FraWin{Key: key, Top: seen[0], Seen: seen}
}

// allWinsAt is all windows of a greatest number that are ok.
func allWinsAt(key string, top int) []impl.FraWin {
	var all []impl.FraWin
	for shape := range 1 << 7 {
		w := winOf(key, top)
		for back := 1; back <= 7; back++ {
			if shape>>(back-1)&1 == 1 {
				w.Seen = append(w.Seen, top-back)
			}
		}
		if w.Seen[len(w.Seen)-1] >= 1 {
			all = append(all, w)
		}
	}
	return all
}

// someWins is windows that are ok: all of low, of middling and of the greatest numbers.
func someWins() []impl.FraWin {
	var all []impl.FraWin
	for top := 1; top <= 17; top++ {
		all = append(all, allWinsAt("mAA1;", top)...)
	}
	for _, top := range []int{24, 63, 64, 65, 100, 255, 256, 500, 511, 512, 513} {
		all = append(all, allWinsAt("mHeA2;nnnnB3;", top)...)
	}
	for top := 990; top <= 999; top++ {
		all = append(all, allWinsAt("mD"+nameOfSize(298), top)...)
	}
	return all
}

// wrongWins is windows that are not ok, each nearly as one that is.
func wrongWins() []impl.FraWin {
	const key = "mBA1;"
	all := []impl.FraWin{
		{}, {Key: key}, {Key: key, Top: 5}, {Key: key, Top: 5, Seen: []int{}}, {Top: 5, Seen: []int{5}}, {Key: key, Seen: []int{5}},
		winOf(key, 5, 5), winOf(key, 5, 5, 4), winOf(key, 5, 4, 4), winOf(key, 5, 4, 3, 3), winOf(key, 5, 3, 4), winOf(key, 5, 4, 5), winOf(key, 5, 1, 2), winOf(key, 5, 4, 3, 4),
		winOf(key, 5, 6), winOf(key, 5, 4, 6), winOf(key, 5, 1000), winOf(key, 5, math.MaxInt), winOf(key, 1, math.MaxInt), winOf(key, 999, math.MaxInt),
		{Key: key, Top: 5, Seen: []int{4}}, {Key: key, Top: 5, Seen: []int{6}}, {Key: key, Top: 5, Seen: []int{6, 5}}, {Key: key, Top: 5, Seen: []int{4, 5}}, {Key: key, Top: 5, Seen: []int{4, 3}},
		{Key: key, Top: 5, Seen: []int{5 + 8}}, {Key: key, Top: 13, Seen: []int{5}}, {Key: key, Top: 999, Seen: []int{1000, 999}},
		winOf(key, 20, 12), winOf(key, 20, 11), winOf(key, 20, 1), winOf(key, 20, 19, 18, 17, 16, 15, 14, 13, 12), winOf(key, 20, 13, 12), winOf(key, 999, 991), winOf(key, 999, 992, 991), winOf(key, 999, 1), winOf(key, 9, 1),
		winOf(key, 5, 0), winOf(key, 5, -1), winOf(key, 5, -2), winOf(key, 5, -3), winOf(key, 5, 4, 3, 2, 1, 0), winOf(key, 8, 0), winOf(key, 1, 0), winOf(key, 1, -6), winOf(key, 2, 1, 0),
		winOf(key, 5, math.MinInt), winOf(key, 5, math.MinInt+1), winOf(key, 5, math.MinInt+5), winOf(key, 999, math.MinInt), winOf(key, 1, -(1<<32)+1),
		winOf(key, slices.Repeat([]int{20}, 5000)...),
	}
	for _, top := range outOf(1, impl.FraMost) {
		all = append(all, winOf(key, top), winOf(key, top, top-1), impl.FraWin{Key: key, Top: top, Seen: []int{5}}, impl.FraWin{Key: key, Top: top})
	}
	for _, no := range append(noNames(), "A1;", "nA1;", "kA1;", "eA1;B1;", "r1A1;", "kmAA1;", "nmAA1;", "mIA1;", "mA") {
		all = append(all, winOf(no, 5, 3))
	}
	return all
}

// someTexts is texts that may be said, the empty one first, and one of just FraLong letters last.
func someTexts() []string {
	all := []string{"", "a", "z", "hi", "ok", "az", "za", "aaaaaaaa", "zzzzzzzz", "abcdefg", "hijklmno"}
	for letter := 'a'; letter <= 'z'; letter++ {
		all = append(all, string(letter), "x"+string(letter)+"x", strings.Repeat(string(letter), impl.FraLong))
	}
	return append(all, "pqrstuvw")
}

// wrongTexts is texts that may not be said, each nearly as one that may.
func wrongTexts() []string {
	all := []string{"abcdefghi", "aaaaaaaaa", strings.Repeat("a", 16), strings.Repeat("a", 256), strings.Repeat("a", 257), strings.Repeat("a", 100000),
		"A", "Z", "Hi", "hI", "HI", "1", "0", "a1", "1a", "h1i", "a9", " ", "a ", " a", "a b", "\n", "a\n", "\na", "\t", "a\x00", "\x00", "`", "{", "@", "[", "a`", "a{", ";", "a;", "-", "a-b", ".", "_",
		"ä", "aä", "é", "ß", "ñ", "ａ", "µ", "\xe4", "\xff", "a\xff", "\x80", "\xe1", "日本", "ª"}
	for b := range 256 {
		if b < 'a' || b > 'z' {
			all = append(all, string([]byte{byte(b)}), string([]byte{'a', byte(b)}), string([]byte{byte(b), 'a'}), "abcdefg"+string([]byte{byte(b)}))
		}
	}
	return all
}

// wrongFrames is frames that are not ok, each nearly as one of one who says something with a key of its own.
func wrongFrames(f impl.FraFrame) []impl.FraFrame {
	var all []impl.FraFrame
	of := func(by func(f *impl.FraFrame)) {
		other := f
		by(&other)
		all = append(all, other)
	}
	for who := range impl.SecMany {
		if who != f.From {
			of(func(f *impl.FraFrame) { f.From = who })
			of(func(f *impl.FraFrame) { f.Key = plainlySaid(f.Key[2:], who) })
		}
	}
	for _, who := range outOf(0, impl.SecMany-1) {
		of(func(f *impl.FraFrame) { f.From = who })
	}
	of(func(f *impl.FraFrame) { f.Key = "k" + f.Key[2:] })
	of(func(f *impl.FraFrame) { f.Key = "n" + f.Key })
	of(func(f *impl.FraFrame) { f.Key = f.Key[2:] })
	of(func(f *impl.FraFrame) { f.Key = f.Key[:1] + "I" + f.Key[2:] })
	of(func(f *impl.FraFrame) { f.Key = f.Key[:len(f.Key)-1] })
	of(func(f *impl.FraFrame) { f.Key += "A1;" })
	of(func(f *impl.FraFrame) { f.Key = plainlySaid(nameOfSize(299), f.From) })
	for _, no := range append(noNames(), "A1;", "nA1;", "kA1;", "eA1;B1;", "r1A1;") {
		of(func(f *impl.FraFrame) { f.Key = no })
	}
	for _, n := range outOf(1, impl.FraMost) {
		of(func(f *impl.FraFrame) { f.N = n })
	}
	for _, text := range wrongTexts() {
		of(func(f *impl.FraFrame) { f.Text = text })
	}
	return append(all, impl.FraFrame{})
}
