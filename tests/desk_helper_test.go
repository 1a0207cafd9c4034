package tests

import (
	"fmt"
	"math/rand"
	"reflect"
	"regexp"
	"slices"
	"strconv"

	"loop.example/keyward/impl"
)

// plainlyWritten is the line of what happens, by the words of the document; empty, if it has none.
func plainlyWritten(e impl.EvEvent) string {
	if e.Who < 0 || e.Who > 7 {
		return ""
	}
	w := "ABCDEFGH"[e.Who]
	word := map[int]string{2: "hear", 3: "join", 6: "get"}[e.Kind]
	switch {
	case e.Kind == 1:
		line := fmt.Sprintf("commit %c", w)
		if e.Add >= 0 && e.Add <= 7 {
			line += fmt.Sprintf(" add %c", "ABCDEFGH"[e.Add])
		}
		if e.Remove >= 0 && e.Remove <= 7 {
			line += fmt.Sprintf(" remove %c", "ABCDEFGH"[e.Remove])
		}
		return line
	case word != "" && e.At >= 0 && e.At <= 99:
		return fmt.Sprintf("%s %c %d", word, w, e.At)
	case e.Kind == 4:
		return fmt.Sprintf("steal %c", w)
	case e.Kind == 5 && plainlyText(e.Text):
		return fmt.Sprintf("say %c %s", w, e.Text)
	}
	return ""
}

// plainlyShapes is how lines look, by the words of the document: who, who comes and who goes, which commit or frame, and what is said.
var plainlyShapes = map[int]*regexp.Regexp{
	1: regexp.MustCompile(`\Acommit ([A-H])(?: add ([A-H]))?(?: remove ([A-H]))?()()\z`),
	2: regexp.MustCompile(`\Ahear ([A-H])()() (0|[1-9][0-9]?)()\z`),
	3: regexp.MustCompile(`\Ajoin ([A-H])()() (0|[1-9][0-9]?)()\z`),
	4: regexp.MustCompile(`\Asteal ([A-H])()()()()\z`),
	5: regexp.MustCompile(`\Asay ([A-H])()()() ([a-z]{0,8})\z`),
	6: regexp.MustCompile(`\Aget ([A-H])()() (0|[1-9][0-9]?)()\z`),
}

// plainlyRead is what happens by a line, by the words of the document.
func plainlyRead(line string) (impl.EvEvent, bool) {
	for kind, shape := range plainlyShapes {
		parts := shape.FindStringSubmatch(line)
		if parts == nil {
			continue
		}
		e := impl.EvEvent{Kind: kind, Who: int(parts[1][0] - 'A'), Add: -1, Remove: -1, Text: parts[5]}
		if parts[2] != "" {
			e.Add = int(parts[2][0] - 'A')
		}
		if parts[3] != "" {
			e.Remove = int(parts[3][0] - 'A')
		}
		if parts[4] != "" {
			e.At, _ = strconv.Atoi(parts[4])
		}
		return e, true
	}
	return impl.EvEvent{}, false
}

// plainlyBoard is how a world stands, by the words of the document.
func plainlyBoard(w impl.GrpWorld) []string {
	if !plainlyWorldOk(w) {
		return nil
	}
	var board []string
	for _, m := range w.Seats {
		if !m.In {
			continue
		}
		in := ""
		for who, leaf := range ownOf {
			if m.Tree.Keys[leaf] != "" {
				in += "ABCDEFGH"[who : who+1]
			}
		}
		board = append(board, fmt.Sprintf("%c epoch %d of %s behind %s", "ABCDEFGH"[m.Who], m.Epoch, in, m.Tag))
	}
	board = append(board, fmt.Sprintf("commits %d wait %d", len(w.Log), len(w.Waits)))
	for _, x := range w.Told {
		f := w.Frames[x.At]
		board = append(board, fmt.Sprintf("%c hears %c %d %s", "ABCDEFGH"[x.Who], "ABCDEFGH"[f.From], f.N, f.Text))
	}
	for _, at := range plainlyHears(w) {
		board = append(board, fmt.Sprintf("spy hears %d", at))
	}
	return board
}

// plainlyRan is how a group that one begins stands behind lines, by the words of the document.
func plainlyRan(who string, lines []string) []string {
	first := slices.Index([]string{"A", "B", "C", "D", "E", "F", "G", "H"}, who)
	if first < 0 {
		return []string{"nobody"}
	}
	if len(lines) > 100 {
		return []string{"long"}
	}
	w, told := plainlyBegun(first), []string(nil)
	for i, line := range lines {
		if e, ok := plainlyRead(line); ok {
			w = plainlyHappens(w, e)
		} else {
			told = append(told, fmt.Sprintf("line %d", i+1))
		}
	}
	return append(told, plainlyBoard(w)...)
}

// saidEvents is all that happens that a line can say, but of what is said some.
func saidEvents() []impl.EvEvent {
	var all []impl.EvEvent
	for who := range 8 {
		for add := -1; add < 8; add++ {
			for remove := -1; remove < 8; remove++ {
				all = append(all, impl.EvEvent{Kind: impl.EvCommit, Who: who, Add: add, Remove: remove})
			}
		}
		for at := range 100 {
			for _, kind := range []int{impl.EvHear, impl.EvJoin, impl.EvGet} {
				all = append(all, impl.EvEvent{Kind: kind, Who: who, Add: -1, Remove: -1, At: at})
			}
		}
		all = append(all, impl.EvEvent{Kind: impl.EvSteal, Who: who, Add: -1, Remove: -1})
		for _, text := range someTexts() {
			all = append(all, impl.EvEvent{Kind: impl.EvSay, Who: who, Add: -1, Remove: -1, Text: text})
		}
	}
	return all
}

// asSaid is what a line says of what happens: nobody and nothing in what its Kind does not use.
func asSaid(e impl.EvEvent) impl.EvEvent {
	said := impl.EvEvent{Kind: e.Kind, Who: e.Who, Add: -1, Remove: -1}
	switch e.Kind {
	case impl.EvCommit:
		if e.Add >= 0 && e.Add < 8 {
			said.Add = e.Add
		}
		if e.Remove >= 0 && e.Remove < 8 {
			said.Remove = e.Remove
		}
	case impl.EvHear, impl.EvJoin, impl.EvGet:
		said.At = e.At
	case impl.EvSay:
		said.Text = e.Text
	}
	return said
}

// someLines is one line of each shape that there is.
func someLines() []string {
	return []string{"commit A", "commit C add B", "commit H remove A", "commit A add B remove C", "commit D add D remove D", "commit E add H remove H",
		"hear A 0", "hear H 9", "hear B 10", "hear C 99", "join B 0", "join A 7", "join G 15", "get A 0", "get D 39", "get F 99", "steal A", "steal H",
		"say A ", "say B x", "say H hi", "say C abcdefgh"}
}

// wrongLines is lines that are none, each nearly as one that is.
func wrongLines() []string {
	all := []string{"", " ", "  ", "\n", "\x00", "\xff", "A", "halt", "commit", "hear", "join", "steal", "say", "get", "commit ", "hear ", "steal ", "say ", "say  ",
		"commits A", "commi A", "Commit A", "COMMIT A", "commit a", "hear A", "hear A ", "Hear A 1", "HEAR A 1", "hears A 1", "heard A 1", "hear a 1", "join A", "Join A 1", "get A", "Get A 1", "gets A 1",
		"Steal A", "stea A", "steal a", "steal I", "steal 0", "steal A 1", "steal A B", "steal A ", "Say A hi", "say a hi", "say A", "say A Hi", "say A HI", "say A h i", "say A 1", "say A hi!", "say A B", "say I hi",
		"commit I", "commit @", "commit AA", "commit AB", "commit A B", "commit A 0", "commit A 1", "commit 0", "commit -1",
		"commit A add", "commit A add ", "commit A remove", "commit A remove ", "commit A add I", "commit A remove I", "commit A add @", "commit A add b", "commit A add BC", "commit A add -1", "commit A add -", "commit A Add B", "commit A remove b",
		"commit A add B C", "commit A add B remove", "commit A add B remove ", "commit A add B remove I", "commit A add B add C", "commit A remove B remove C", "commit A remove B add C", "commit A add remove B", "commit A remove add B",
		"commit A add B remove C add D", "commit A add B remove C D", "commit A add B remove CD", "commit A add B remove C remove D", "commit A B add", "add B commit A", "commit add B A", "commit add A", "commit A with B", "commit A addB", "commit Aadd B",
		"A commit", "A hear 1", "hear 1 A", "1 hear A", "hear 0", "hear A A", "hear A B 0", "hear A 0 0", "hear A 0 B", "hear A x", "hear A 1x", "hear A x1", "hear A hi", "say A 0", "join 0 B", "get B hi",
		"say hi A", "A say hi", "say A hi ok", "say A hi ", "say A  ", "say A  hi", "say A\thi", "say A hi\n", "say A hi\r\n", "\ufeffsay A hi", "say A h\u00e4", "say \u0391 hi", "s\u0430y A hi",
		"wait A", "spy hears 0", "A hears B 1 hi", "A epoch 0 of A behind ", "commits 0 wait 0", "line 1", "nobody", "long"}
	for _, n := range []string{"00", "01", "09", "010", "099", "000", "+0", "+1", "-0", "-1", "-99", "- 1", "100", "101", "999", "1000", "256", "4294967296", "18446744073709551616", "9223372036854775807", "9223372036854775808", "-9223372036854775808",
		"99999999999999999999999", "1e1", "0x1", "0b1", "0o1", "1_0", "1.0", "1.", ".5", "0.", "1,0", "\u0661", "\uff11", "1\x00", "\x001", "1\n", "1\xff"} {
		all = append(all, "hear A "+n, "join B "+n, "get C "+n)
	}
	for _, text := range wrongTexts() {
		all = append(all, "say A "+text)
	}
	return all
}

// edits is a text with one byte less, another one, or one more, at each place.
func edits(text string, bytes string) []string {
	var all []string
	for at := range len(text) + 1 {
		for i := range len(bytes) {
			all = append(all, text[:at]+bytes[i:i+1]+text[at:])
			if at < len(text) {
				all = append(all, text[:at]+bytes[i:i+1]+text[at+1:])
			}
		}
		if at < len(text) {
			all = append(all, text[:at]+text[at+1:])
		}
	}
	return all
}

// linesOf is lines of what happens on a walk of a group that one begins, most of which can happen; some of all are none.
func linesOf(r *rand.Rand, first, many int, wrong float64) []string {
	var lines []string
	no := wrongLines()
	for w := impl.GrpNew(first); len(lines) < many; {
		if r.Float64() < wrong {
			lines = append(lines, no[r.Intn(len(no))])
			continue
		}
		e := likelyEvent(r, w)
		if line := plainlyWritten(e); line != "" {
			lines = append(lines, line)
			w = impl.GrpStep(w, e)
		}
	}
	return lines
}

// apartLines is lines in memory of their own, each, with something behind their end.
func apartLines(lines []string) []string {
	return apartly(reflect.ValueOf(lines)).Interface().([]string)
}
