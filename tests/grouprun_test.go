package tests

import (
	"math/rand"
	"reflect"
	"slices"
	"strings"
	"testing"
	"unsafe"

	"loop.example/keyward/impl"
)

// Whatever happens, step by step, and in a calm behind it: by the words of the document alone; and in a run it is the same as one by one.
func TestWhateverHappensInAGroup(t *testing.T) {
	r := rand.New(rand.NewSource(93))
	turns := map[int]int{}
	for range 300 {
		begun := impl.GrpNew(r.Intn(8))
		w := begun
		var events []impl.EvEvent
		for range 20 + r.Intn(80) {
			e := someEvent(r, w)
			got, want := impl.GrpStep(w, e), plainlyHappens(w, e)
			if !sameWorld(got, want) {
				t.Fatalf("%+v, not %+v, of %+v, by %+v", got, want, w, e)
			}
			if !sameWorld(got, w) {
				turns[e.Kind]++
			}
			events, w = append(events, e), got
		}
		if !impl.GrpOk(w) || !plainlyWorldOk(w) {
			t.Fatalf("%+v is not ok", w)
		}
		half := r.Intn(len(events) + 1)
		if got := impl.GrpRun(begun, events); !sameWorld(got, w) {
			t.Fatalf("%+v, not %+v, by %+v", got, w, events)
		}
		if got := impl.GrpRun(impl.GrpRun(begun, events[:half]), events[half:]); !sameWorld(got, w) {
			t.Fatalf("%+v, not %+v, by %+v, cut at %d", got, w, events, half)
		}
		isCalm(t, w)
	}
	for kind := impl.EvCommit; kind <= impl.EvGet; kind++ {
		if turns[kind] < 500 {
			t.Fatal(turns)
		}
	}
}

// isCalm fails unless a calm is as the document says, and lets nothing happen but what one can hear, or come by; it is the world then.
func isCalm(t *testing.T, w impl.GrpWorld) impl.GrpWorld {
	t.Helper()
	got, want := impl.GrpCalm(w), plainlyCalm(w)
	if !sameWorld(got, want) || !impl.GrpOk(got) {
		t.Fatalf("%+v, not %+v, of %+v", got, want, w)
	}
	other := copyOfWorld(got)
	other.Seats, other.Waits = w.Seats, w.Waits
	if !sameWorld(other, w) || len(got.Waits) > len(w.Waits) {
		t.Fatalf("%+v, of %+v", got, w)
	}
	for at := range got.Log {
		for who := range impl.SecMany {
			if got.Seats[who].In {
				leavesAll(t, "in a calm all is heard", got, hearsAt(who, at))
			}
		}
	}
	return got
}

// A run is one thing behind the other: none, some that cannot happen among others, and EvMaxRun, but not one more.
func TestARunIsOneBehindTheOther(t *testing.T) {
	w := handWorld(t)
	for _, none := range [][]impl.EvEvent{nil, {}, {{}}, {saysText(-1, "hi"), hearsAt(0, 99)}} {
		if got := impl.GrpRun(w, none); !sameWorld(got, w) {
			t.Fatalf("%+v, of %+v", got, w)
		}
	}
	for _, many := range []int{1, 2, 50, impl.EvMaxRun - 1, impl.EvMaxRun} {
		events := append(slices.Repeat([]impl.EvEvent{saysText(9, "hi")}, many-1), saysText(0, "last"))
		if got := impl.GrpRun(w, events); !sameWorld(got, plainlyHappens(w, saysText(0, "last"))) {
			t.Fatalf("%+v, of %d", got, many)
		}
		slices.Reverse(events)
		if got := impl.GrpRun(w, events); !sameWorld(got, plainlyHappens(w, saysText(0, "last"))) {
			t.Fatalf("%+v, of %d", got, many)
		}
	}
	for _, many := range []int{impl.EvMaxRun + 1, impl.EvMaxRun + 2, 2 * impl.EvMaxRun, 100000} {
		for _, e := range []impl.EvEvent{{}, saysText(0, "hi"), goesOn(0, -1, -1)} {
			if got := impl.GrpRun(w, slices.Repeat([]impl.EvEvent{e}, many)); !isNoWorld(got) {
				t.Fatalf("%+v, of %d", got, many)
			}
		}
	}
}

// A run of EvMaxRun things, of which a group comes to all its ends: commits, frames, and thefts.
func TestARunToAllEnds(t *testing.T) {
	var events []impl.EvEvent
	for who := 1; who < impl.SecMany; who++ {
		events = append(events, goesOn(0, who, -1), joinsAt(who, who-1))
	}
	for len(events) < impl.EvMaxRun-60 {
		who := len(events) % impl.SecMany
		events = append(events, saysText(who, "x"), isStolenOf(who))
	}
	for len(events) < impl.EvMaxRun {
		events = append(events, goesOn(len(events)%impl.SecMany, -1, -1))
	}
	begun := impl.GrpNew(0)
	w, want := impl.GrpRun(begun, events), begun
	for _, e := range events {
		want = plainlyHappens(want, e)
	}
	if !sameWorld(w, want) || len(w.Log) != impl.LogMost || len(w.Frames) != impl.SayMost || len(w.Stolen) != impl.StoMost {
		t.Fatalf("%+v, not %+v", w, want)
	}
	isCalm(t, w)
}

// A world that was written, not begun, can come to have more who wait, or more that was stolen, than it may; nothing comes of it then.
func TestAWrittenWorldComesToNothing(t *testing.T) {
	waits := turnedWorld(handWorld(t), func(w *impl.GrpWorld) { w.Waits = slices.Repeat(w.Waits[:1], impl.LogMost) })
	steals := turnedWorld(handWorld(t), func(w *impl.GrpWorld) { w.Spy = slices.Repeat(w.Spy[:1], 6*impl.StoMost-4) })
	for _, at := range []struct {
		w impl.GrpWorld
		e impl.EvEvent
	}{{waits, goesOn(0, 6, -1)}, {steals, isStolenOf(0)}} {
		isRight(t, "just so many", at.w)
		more := impl.GrpStep(at.w, at.e)
		if !sameWorld(more, plainlyHappens(at.w, at.e)) {
			t.Fatalf("%+v, of %+v", more, at.w)
		}
		isWrong(t, "one more", more)
		if got := impl.GrpRun(at.w, []impl.EvEvent{at.e}); !sameWorld(got, more) {
			t.Fatalf("%+v, not %+v", got, more)
		}
		for _, e := range append(anyOfEach(0, 0), impl.EvEvent{}, joinsAt(4, 4)) {
			if got := impl.GrpRun(at.w, []impl.EvEvent{at.e, e}); !isNoWorld(got) {
				t.Fatalf("%+v, by %+v", got, e)
			}
			if got := impl.GrpRun(at.w, []impl.EvEvent{e, at.e, e, e}); !isNoWorld(got) && e != joinsAt(4, 4) {
				t.Fatalf("%+v, by %+v", got, e)
			}
		}
	}
	// One who comes first leaves room for one more who waits.
	if got := impl.GrpRun(waits, []impl.EvEvent{joinsAt(4, 4), goesOn(0, 6, -1), saysText(0, "hi")}); len(got.Waits) != impl.LogMost || len(got.Frames) != 5 {
		t.Fatalf("%+v", got)
	}
}

// Whatever happens in worlds that were written, at all bounds: a run is one by one, by the words of the document alone.
func TestWhateverHappensInWrittenWorlds(t *testing.T) {
	r := rand.New(rand.NewSource(94))
	nothing, some := 0, 0
	for _, w := range someWorlds(95, 300, 30) {
		other := writtenWorld(r, w)
		want := other
		var events []impl.EvEvent
		for range 12 {
			e := someEvent(r, want)
			events = append(events, e)
			got := impl.GrpStep(want, e)
			want = plainlyStep(want, e)
			if !sameWorld(got, want) {
				t.Fatalf("%+v, not %+v, by %+v", got, want, events)
			}
		}
		if got := impl.GrpRun(other, events); !sameWorld(got, want) {
			t.Fatalf("%+v, not %+v, of %+v, by %+v", got, want, other, events)
		}
		if plainlyWorldOk(other) {
			if got := impl.GrpCalm(other); !sameWorld(got, plainlyCalm(other)) {
				t.Fatalf("%+v, of %+v", got, other)
			}
		}
		if isNoWorld(want) {
			nothing++
		} else {
			some++
		}
	}
	if nothing < 20 || some < 100 {
		t.Fatal(nothing, some)
	}
}

// writtenWorld is a world that nobody began, that is ok: numbers and lists at their bounds, seats and commits from elsewhere.
func writtenWorld(r *rand.Rand, w impl.GrpWorld) impl.GrpWorld {
	w = copyOfWorld(w)
	for who := range impl.SecMany {
		w.Fresh[who], w.Said[who] = 92+r.Intn(8), 997+r.Intn(3)
	}
	if r.Intn(2) == 0 {
		w.Spy = slices.Repeat([]string{"A1;"}, 64+r.Intn(9))
		w.Stolen = w.Stolen[:min(len(w.Stolen), 8)]
	}
	if len(w.Log) > 0 {
		w.Log = w.Log[:min(len(w.Log), 13)]
		w.Waits = slices.DeleteFunc(w.Waits, func(x impl.GrpWait) bool { return x.At >= len(w.Log) })
		for at, c := range w.Log {
			if r.Intn(2) == 0 && c.Add >= 0 && len(w.Waits) < 14 {
				w.Waits = append(w.Waits, impl.GrpWait{Who: c.Add, At: at, Leaf: c.Leaf[1:], Key: c.Welcome.Key[1:]})
			}
		}
		for len(w.Waits) < 14+r.Intn(3) {
			w.Waits = slices.Insert(w.Waits, 0, impl.GrpWait{Who: r.Intn(8), At: r.Intn(len(w.Log)), Leaf: "A1;", Key: "nA1;"})
		}
	}
	if len(w.Frames) > 0 && r.Intn(2) == 0 {
		w.Told = slices.Repeat([]impl.GrpTold{{At: len(w.Frames) - 1}}, 318+r.Intn(3))
	}
	return w
}

// A calm by hand: who waits comes, all hear in the order of commits, so the first of two that go on at once is heard; who is let go is in none.
func TestACalmByHand(t *testing.T) {
	w := grownBy(t, 0, 1, 2, 3)
	w = stepsAll(t, "all at once", w, goesOn(1, 4, -1), goesOn(2, 5, 3), goesOn(1, -1, -1), goesOn(2, -1, -1))
	calm := isCalm(t, w)
	haveOne(t, "the first one is heard", calm, "A3;A4;A5;B3;B4;", 0, 1, 3, 4)
	haveOne(t, "who went on apart stays apart", calm, "A3;A4;A5;C3;C4;", 2, 5)
	if len(calm.Waits) != 0 || !slices.Equal(whoIsIn(calm), []int{0, 1, 2, 3, 4, 5}) {
		t.Fatalf("%+v", calm)
	}
	// D hears the other one first, and so is let go; all else is as it was.
	calm = isCalm(t, steps(t, "D hears the other one", w, hearsAt(3, 4)))
	haveOne(t, "the first one is heard", calm, "A3;A4;A5;B3;B4;", 0, 1, 4)
	if calm.Seats[3].In {
		t.Fatalf("%+v", calm.Seats[3])
	}
	if once := impl.GrpCalm(calm); !sameWorld(once, calm) {
		t.Fatalf("%+v, of %+v", once, calm)
	}
}

// A calm: who is let go, and comes in its own place at once, goes, and comes; who was let in first, and goes later, comes, and goes.
func TestACalmLetsGoAndCome(t *testing.T) {
	w := stepsAll(t, "none has heard", impl.GrpNew(0), goesOn(0, 1, -1), goesOn(0, 2, -1), goesOn(0, 1, 1), goesOn(0, 3, 2), goesOn(0, -1, -1))
	calm := isCalm(t, w)
	haveOne(t, "all", calm, "A3;A4;A5;A6;A7;", 0, 1, 3)
	if !slices.Equal(whoIsIn(calm), []int{0, 1, 3}) || len(calm.Waits) != 0 || calm.Seats[1].Own[0].Secret != "B3;" {
		t.Fatalf("%+v", calm)
	}
	if alone := impl.GrpCalm(impl.GrpNew(5)); !sameWorld(alone, impl.GrpNew(5)) {
		t.Fatalf("%+v", alone)
	}
	// Who is in another part cannot come: it waits on.
	w = stepsAll(t, "apart", grownBy(t, 0, 1, 2), goesOn(1, -1, -1), goesOn(0, 1, 1))
	if calm = isCalm(t, w); len(calm.Waits) != 1 || calm.Seats[1].Tag != "A3;A4;B3;" {
		t.Fatalf("%+v", calm)
	}
}

// junk is what lies behind the end of a list.
func junk(v reflect.Value) {
	switch v.Kind() {
	case reflect.Int:
		v.SetInt(-7)
	case reflect.Bool:
		v.SetBool(true)
	case reflect.String:
		v.SetString("behind")
	case reflect.Struct:
		for i := range v.NumField() {
			junk(v.Field(i))
		}
	}
}

// apartly is a value in memory of its own, names and all, with something behind the end of each list.
func apartly(v reflect.Value) reflect.Value {
	other := reflect.New(v.Type()).Elem()
	switch v.Kind() {
	case reflect.String:
		other.SetString(strings.Clone(v.String()))
	case reflect.Struct:
		for i := range v.NumField() {
			other.Field(i).Set(apartly(v.Field(i)))
		}
	case reflect.Slice:
		other = reflect.MakeSlice(v.Type(), v.Len()+2, v.Len()+2)
		for i := range v.Len() {
			other.Index(i).Set(apartly(v.Index(i)))
		}
		junk(other.Index(v.Len()))
		junk(other.Index(v.Len() + 1))
		return other.Slice(0, v.Len())
	default:
		other.Set(v)
	}
	return other
}

func apartWorld(w impl.GrpWorld) impl.GrpWorld {
	return apartly(reflect.ValueOf(w)).Interface().(impl.GrpWorld)
}

// wholly is a value with all that lies behind the ends of its lists as a part of it, in memory of its own.
func wholly(v reflect.Value) reflect.Value {
	other := reflect.New(v.Type()).Elem()
	switch v.Kind() {
	case reflect.Struct:
		for i := range v.NumField() {
			other.Field(i).Set(wholly(v.Field(i)))
		}
	case reflect.Slice:
		whole := v.Slice(0, v.Cap())
		other = reflect.MakeSlice(v.Type(), whole.Len(), whole.Len())
		for i := range whole.Len() {
			other.Index(i).Set(wholly(whole.Index(i)))
		}
	default:
		other.Set(v)
	}
	return other
}

func wholeWorld(w impl.GrpWorld) impl.GrpWorld {
	return wholly(reflect.ValueOf(w)).Interface().(impl.GrpWorld)
}

// memory is where something lies, from its first byte up to behind its last.
type memory struct {
	from, to uintptr
	what     string
}

// memoryOf is where all lists of a value lie, spare room included, and all texts.
func memoryOf(v reflect.Value, what string) []memory {
	var all []memory
	switch v.Kind() {
	case reflect.String:
		if s := v.String(); s != "" {
			from := uintptr(unsafe.Pointer(unsafe.StringData(s)))
			all = append(all, memory{from: from, to: from + uintptr(len(s)), what: what + " " + s})
		}
	case reflect.Struct:
		for i := range v.NumField() {
			all = append(all, memoryOf(v.Field(i), what+"."+v.Type().Field(i).Name)...)
		}
	case reflect.Slice:
		if v.Cap() > 0 {
			all = append(all, memory{from: v.Pointer(), to: v.Pointer() + uintptr(v.Cap())*v.Type().Elem().Size(), what: what})
		}
		for i := range v.Len() {
			all = append(all, memoryOf(v.Index(i), what)...)
		}
	}
	return all
}

// lieApart fails if two of some values, or two lists or texts of one of them, share memory.
func lieApart(t *testing.T, values ...any) {
	t.Helper()
	var all []memory
	for i, v := range values {
		all = append(all, memoryOf(reflect.ValueOf(v), string(rune('0'+i)))...)
	}
	slices.SortFunc(all, func(a, b memory) int {
		if a.from < b.from {
			return -1
		}
		return 1
	})
	for i := range len(all) - 1 {
		if all[i].to > all[i+1].from {
			t.Fatalf("%s and %s share memory", all[i].what, all[i+1].what)
		}
	}
}

// No call changes what is handed in, nor what lies behind its end; no answer shares memory with it, nor two lists of one answer with each other.
func TestWorldsStayAsTheyWere(t *testing.T) {
	r := rand.New(rand.NewSource(96))
	for i, w := range append(someWorlds(97, 40, 50), handWorld(t), impl.GrpNew(3)) {
		w = apartWorld(w)
		was := wholeWorld(w)
		look := func(what string, got impl.GrpWorld, events []impl.EvEvent) {
			t.Helper()
			lieApart(t, w, got, events)
			if is := wholeWorld(w); !sameWorld(is, was) {
				t.Fatalf("%s, world %d: %+v turned, and was %+v", what, i, is, was)
			}
		}
		impl.GrpOk(w)
		look("ok", impl.GrpWorld{}, nil)
		look("calm", impl.GrpCalm(w), nil)
		for range 40 {
			e := someEvent(r, w)
			e.Text = strings.Clone(e.Text)
			look("step", impl.GrpStep(w, e), []impl.EvEvent{e})
		}
		var events []impl.EvEvent
		for next := w; len(events) < 30; next = impl.GrpStep(next, events[len(events)-1]) {
			events = append(events, someEvent(r, next))
		}
		events = apartly(reflect.ValueOf(events)).Interface().([]impl.EvEvent)
		had := slices.Clone(events[:cap(events)])
		look("run", impl.GrpRun(w, events), events)
		look("no run", impl.GrpRun(w, nil), nil)
		if !slices.Equal(events[:cap(events)], had) {
			t.Fatalf("%+v turned, and was %+v", events[:cap(events)], had)
		}
		noSeat := w
		noSeat.Seats = w.Seats[:7]
		look("not ok", impl.GrpStep(noSeat, goesOn(0, -1, -1)), nil)
	}
	for who := range impl.SecMany {
		lieApart(t, impl.GrpNew(who), impl.GrpNew(who), impl.GrpCalm(impl.GrpNew(who)))
	}
}

// What is written into an answer turns nothing that comes later: no call keeps anything.
func TestNothingIsKeptOfAWorld(t *testing.T) {
	w := handWorld(t)
	events := []impl.EvEvent{goesOn(0, 6, -1), joinsAt(6, 6), saysText(0, "hi"), getsAt(6, 4), isStolenOf(6)}
	want := copyOfWorld(impl.GrpRun(w, events))
	for range 3 {
		got := impl.GrpRun(w, events)
		if !sameWorld(got, want) {
			t.Fatalf("%+v, not %+v", got, want)
		}
		turn(got.Log[6].Keys, "turned")
		turn(got.Seats[0].Own, impl.MemOwn{})
		turn(got.Wins[6][0].Seen, -1)
		turn(got.Seats, impl.MemMember{})
		turn(got.Log, impl.CmtCommit{})
		turn(got.Fresh, -1)
		turn(got.Wins, nil)
	}
	for range 2 {
		begun := impl.GrpNew(2)
		if !sameWorld(begun, plainlyBegun(2)) {
			t.Fatalf("%+v", begun)
		}
		turn(begun.Seats[2].Tree.Keys, "turned")
		turn(begun.Seats, impl.MemMember{})
		turn(begun.Said, -1)
	}
}
