package tests

import (
	"math"
	"math/rand"
	"slices"
	"strconv"
	"strings"
	"testing"
	"unsafe"

	"loop.example/keyward/impl"
)

// outOf is numbers that are out of low..high, those among them that wrap round to one that is in.
func outOf(low, high int) []int {
	all := []int{low - 1, low - 2, -1, -low - 256, high + 1, high + 2, high * 10, 1 << 8, 1<<8 + 1, 1<<16 + 1, 1<<32 + 1, math.MinInt, math.MinInt + 1, math.MaxInt}
	return slices.DeleteFunc(all, func(n int) bool { return n >= low && n <= high })
}

func TestNumbersOfSecrets(t *testing.T) {
	got := [...]int{impl.SecNew, impl.SecNext, impl.SecKey, impl.SecEpoch, impl.SecSay, impl.SecRoom, impl.SecMany, impl.SecMost, impl.SecLong, impl.SecRooms}
	if want := [...]int{1, 2, 3, 4, 5, 6, 8, 99, 300, 9}; got != want {
		t.Fatal(got)
	}
}

// Promise 12.
func TestNewSecretsHaveTheirNames(t *testing.T) {
	seen := map[string]impl.SecHow{}
	for who := 0; who < impl.SecMany; who++ {
		for n := 1; n <= impl.SecMost; n++ {
			s := impl.MakNew(who, n)
			if s != "ABCDEFGH"[who:who+1]+strconv.Itoa(n)+";" || !impl.SecOk(s) {
				t.Fatalf("MakNew(%d, %d) = %q", who, n, s)
			}
			how := impl.SecHow{Op: impl.SecNew, Who: who, N: n}
			if h := impl.SecMade(s); h != how {
				t.Fatalf("SecMade(%q) = %+v", s, h)
			}
			if other, ok := seen[s]; ok {
				t.Fatalf("%+v and %+v are both %q", other, how, s)
			}
			seen[s] = how
		}
	}
}

// Promise 12: who is nobody, and a number that is none, make nothing.
func TestNewSecretsOutOfBounds(t *testing.T) {
	for _, who := range outOf(0, impl.SecMany-1) {
		for _, n := range []int{1, 50, impl.SecMost, 0, 100} {
			if s := impl.MakNew(who, n); s != "" {
				t.Errorf("MakNew(%d, %d) = %q", who, n, s)
			}
		}
	}
	for _, n := range outOf(1, impl.SecMost) {
		for who := 0; who < impl.SecMany; who++ {
			if s := impl.MakNew(who, n); s != "" {
				t.Errorf("MakNew(%d, %d) = %q", who, n, s)
			}
		}
	}
}

// Promise 13.
func TestHowASecretWasMadeMakesIt(t *testing.T) {
	for _, s := range someNames() {
		if !impl.SecOk(s) {
			t.Fatalf("%q is no name", s)
		}
		if got := made(impl.SecMade(s)); got != s {
			t.Fatalf("SecMade(%q) = %+v makes %q", s, impl.SecMade(s), got)
		}
	}
}

// Promise 13: just what is told is there, and all else is nothing.
func TestHowASecretWasMade(t *testing.T) {
	for s, want := range map[string]impl.SecHow{
		"A1;":              {Op: impl.SecNew, Who: 0, N: 1},
		"H99;":             {Op: impl.SecNew, Who: 7, N: 99},
		"C10;":             {Op: impl.SecNew, Who: 2, N: 10},
		"nA1;":             {Op: impl.SecNext, A: "A1;"},
		"nneA1;B2;":        {Op: impl.SecNext, A: "neA1;B2;"},
		"kH99;":            {Op: impl.SecKey, A: "H99;"},
		"eA1;B2;":          {Op: impl.SecEpoch, A: "A1;", B: "B2;"},
		"eA1;A1;":          {Op: impl.SecEpoch, A: "A1;", B: "A1;"},
		"eeA1;B2;nC3;":     {Op: impl.SecEpoch, A: "eA1;B2;", B: "nC3;"},
		"emBA1;eB2;r9C3;":  {Op: impl.SecEpoch, A: "mBA1;", B: "eB2;r9C3;"},
		"mAA1;":            {Op: impl.SecSay, Who: 0, A: "A1;"},
		"mHeA1;B2;":        {Op: impl.SecSay, Who: 7, A: "eA1;B2;"},
		"r1A1;":            {Op: impl.SecRoom, N: 1, A: "A1;"},
		"r9mBkA1;":         {Op: impl.SecRoom, N: 9, A: "mBkA1;"},
		nameOfSize(300):    {Op: impl.SecNext, A: nameOfSize(299)},
		nameOfSize(301):    {},
		"":                 {},
		"nA1;B1;":          {},
		"eA1;":             {},
		"k" + "r0A1;":      {},
		"mBA1":             {},
		"e" + "A1;B2;C3;":  {},
		"A18446744073709;": {},
	} {
		if got := impl.SecMade(s); got != want {
			t.Errorf("SecMade(%q) = %+v, not %+v", s, got, want)
		}
	}
}

// Promise 14.
func TestWhatIsMadeFromASecretTellsHow(t *testing.T) {
	seen := map[string]string{}
	for _, s := range someNames() {
		for _, c := range []struct {
			op   int
			name string
			want string
		}{{impl.SecNext, impl.MakNext(s), "n" + s}, {impl.SecKey, impl.MakKey(s), "k" + s}} {
			if len(c.want) > impl.SecLong {
				c.want = ""
			}
			if c.name != c.want {
				t.Fatalf("of %q: %q, not %q", s, c.name, c.want)
			}
			if c.want == "" {
				continue
			}
			if h := impl.SecMade(c.name); !impl.SecOk(c.name) || h != (impl.SecHow{Op: c.op, A: s}) {
				t.Fatalf("SecMade(%q) = %+v", c.name, h)
			}
			if from, ok := seen[c.name]; ok {
				t.Fatalf("%q is made from %q and from %q", c.name, from, s)
			}
			seen[c.name] = s
		}
	}
}

// Promise 15.
func TestWhatAGroupHasTellsFromWhat(t *testing.T) {
	names := someNames()[:120]
	seen := map[string][2]string{}
	for _, a := range names {
		for _, b := range names {
			s := impl.MakEpoch(a, b)
			if 1+len(a)+len(b) > impl.SecLong {
				if s != "" {
					t.Fatalf("MakEpoch(%q, %q) = %q", a, b, s)
				}
				continue
			}
			if h := impl.SecMade(s); s != "e"+a+b || !impl.SecOk(s) || h != (impl.SecHow{Op: impl.SecEpoch, A: a, B: b}) {
				t.Fatalf("MakEpoch(%q, %q) = %q, made so: %+v", a, b, s, h)
			}
			if from, ok := seen[s]; ok {
				t.Fatalf("%q is made from %q and from %q %q", s, from, a, b)
			}
			seen[s] = [2]string{a, b}
		}
	}
}

// Promise 15: two texts that only together are the names of both make nothing.
func TestWhatAGroupHasIsMadeFromNames(t *testing.T) {
	for _, c := range [][2]string{
		{"", "A1;B2;"}, {"A1;B2;", ""}, {"A1", ";B2;"}, {"A1;n", "B2;"}, {"A", "1;B2;"}, {"eA1;", "B2;C3;"}, {"e", "A1;B2;C3;"}, {"A1;k", "B2;"}, {"n", "A1;B2;"}, {"", ""},
	} {
		if s := impl.MakEpoch(c[0], c[1]); s != "" {
			t.Errorf("MakEpoch(%q, %q) = %q", c[0], c[1], s)
		}
	}
	for _, no := range noNames() {
		for _, a := range []string{"A1;", "nB2;", no} {
			if impl.MakEpoch(a, no) != "" || impl.MakEpoch(no, a) != "" {
				t.Errorf("of %q and %q something is made", a, no)
			}
		}
	}
}

// Promise 16.
func TestEachSaysWithItsOwn(t *testing.T) {
	seen := map[string]impl.SecHow{}
	look := func(s, name, want string, how impl.SecHow) {
		t.Helper()
		if len(want) > impl.SecLong {
			want, how = "", impl.SecHow{}
		}
		if name != want || impl.SecOk(name) != (want != "") || impl.SecMade(name) != how {
			t.Fatalf("of %q: %q, made so: %+v; not %q, %+v", s, name, impl.SecMade(name), want, how)
		}
		if other, ok := seen[name]; ok && name != "" {
			t.Fatalf("%q is %+v and %+v", name, other, how)
		}
		seen[name] = how
	}
	for _, s := range someNames() {
		for who := 0; who < impl.SecMany; who++ {
			look(s, impl.MakSay(s, who), "m"+"ABCDEFGH"[who:who+1]+s, impl.SecHow{Op: impl.SecSay, Who: who, A: s})
		}
		for room := 1; room <= impl.SecRooms; room++ {
			look(s, impl.MakRoom(s, room), "r"+strconv.Itoa(room)+s, impl.SecHow{Op: impl.SecRoom, N: room, A: s})
		}
	}
}

// Promise 16: nobody says, and no room has, anything out of bounds.
func TestNobodySaysAndNoRoomHas(t *testing.T) {
	for _, s := range []string{"A1;", "eA1;B2;", "mHA1;", "", "A"} {
		for _, who := range outOf(0, impl.SecMany-1) {
			if got := impl.MakSay(s, who); got != "" {
				t.Errorf("MakSay(%q, %d) = %q", s, who, got)
			}
		}
		for _, room := range append(outOf(1, impl.SecRooms), 0, 10, 11, 19, 99) {
			if got := impl.MakRoom(s, room); got != "" {
				t.Errorf("MakRoom(%q, %d) = %q", s, room, got)
			}
		}
	}
}

// Promise 55.
func TestWhatASecretWasMadeFromIsShorter(t *testing.T) {
	for _, s := range someNames() {
		h := impl.SecMade(s)
		from := []string{h.A, h.B}
		switch h.Op {
		case impl.SecNew:
			from = nil
		case impl.SecEpoch:
		default:
			from = from[:1]
		}
		if h.Op < impl.SecNew || h.Op > impl.SecRoom || h.Op == impl.SecNew && h.A != "" || h.Op != impl.SecEpoch && h.B != "" {
			t.Fatalf("SecMade(%q) = %+v", s, h)
		}
		for _, f := range from {
			if !impl.SecOk(f) || len(f) >= len(s) || f == "" {
				t.Fatalf("SecMade(%q) tells %q", s, f)
			}
		}
	}
}

// Promise 56.
func TestInNoTwoWaysIsOneSecretMade(t *testing.T) {
	for _, s := range someNames() {
		if 1+2*len(s) > impl.SecLong {
			continue // what is too long is none, so all that would be made may be empty
		}
		all := []string{impl.MakNext(s), impl.MakKey(s), impl.MakEpoch(s, s)}
		for who := 0; who < impl.SecMany; who++ {
			all = append(all, impl.MakSay(s, who))
		}
		for room := 1; room <= impl.SecRooms; room++ {
			all = append(all, impl.MakRoom(s, room))
		}
		seen := map[string]int{s: -1, "": -2}
		for i, name := range all {
			if j, ok := seen[name]; ok {
				t.Fatalf("ways %d and %d of %q make %q", j, i, s, name)
			}
			seen[name] = i
		}
	}
}

func TestWhatIsNoName(t *testing.T) {
	for _, s := range noNames() {
		if impl.SecOk(s) || impl.SecMade(s) != (impl.SecHow{}) {
			t.Errorf("%.40q is a name", s)
		}
		if impl.MakNext(s)+impl.MakKey(s)+impl.MakEpoch(s, s)+impl.MakEpoch("A1;", s)+impl.MakEpoch(s, "A1;")+impl.MakSay(s, 0)+impl.MakRoom(s, 1) != "" {
			t.Errorf("of %.40q something is made", s)
		}
	}
}

func TestNamesCutShortAndWithSomethingBehind(t *testing.T) {
	for _, s := range someNames() {
		for i := range len(s) {
			if impl.SecOk(s[:i]) {
				t.Fatalf("%q is a name, and so is %q", s, s[:i])
			}
		}
		for _, more := range []string{";", "0", "A", "A1;", "n", " ", "\x00", "\xff"} {
			if impl.SecOk(s + more) {
				t.Fatalf("%q is a name", s+more)
			}
		}
	}
}

func TestNamesAtTheirGreatestSize(t *testing.T) {
	long := nameOfSize(impl.SecLong)
	if !impl.SecOk(long) || impl.SecOk("n"+long) {
		t.Fatal("a name has at most SecLong bytes")
	}
	if impl.MakNext(long)+impl.MakKey(long)+impl.MakSay(long, 0)+impl.MakRoom(long, 1)+impl.MakEpoch(long, "A1;") != "" {
		t.Fatal("something longer than SecLong is made")
	}
	one := nameOfSize(impl.SecLong - 1)
	if impl.MakNext(one) != "n"+one || impl.MakKey(one) != "k"+one || impl.MakSay(one, 0)+impl.MakRoom(one, 1) != "" {
		t.Fatal("one byte more is just a name, two are none")
	}
	two := nameOfSize(impl.SecLong - 2)
	if impl.MakSay(two, 7) != "mH"+two || impl.MakRoom(two, 9) != "r9"+two {
		t.Fatal("two bytes more are just a name")
	}
	for _, a := range []int{3, 4, 149, 150, 295, 296} {
		b := impl.SecLong - 1 - a
		if got := impl.MakEpoch(nameOfSize(a), nameOfSize(b)); len(got) != impl.SecLong || !impl.SecOk(got) {
			t.Fatalf("of %d and %d bytes: %q", a, b, got)
		}
		if got := impl.MakEpoch(nameOfSize(a), nameOfSize(b+1)); got != "" {
			t.Fatalf("of %d and %d bytes: %q", a, b+1, got)
		}
	}
	if !impl.SecOk(strings.Repeat("e", 74)+strings.Repeat("A1;", 75)) || impl.SecOk(strings.Repeat("e", 75)+strings.Repeat("A1;", 76)) {
		t.Fatal("names of two, 299 and 303 bytes")
	}
}

func TestAllShortTexts(t *testing.T) {
	signs := "AHInkemr0159;"
	var each func(head string, more int)
	each = func(head string, more int) {
		if got := impl.SecOk(head); got != plainlyName(head) {
			t.Fatalf("SecOk(%q) = %v", head, got)
		}
		if got := made(impl.SecMade(head)); plainlyName(head) && got != head || !plainlyName(head) && got != "" {
			t.Fatalf("SecMade(%q) makes %q", head, got)
		}
		if more == 0 {
			return
		}
		for i := range len(signs) {
			each(head+signs[i:i+1], more-1)
		}
	}
	each("", 5)
}

func TestNamesWithOneByteTurned(t *testing.T) {
	r := rand.New(rand.NewSource(2))
	signs := "ABHI@anekmrE0123456789;: \x00\xff"
	for _, s := range someNames() {
		for range 60 {
			at, sign := r.Intn(len(s)), string(signs[r.Intn(len(signs))])
			for _, x := range []string{s[:at] + sign + s[at+1:], s[:at] + sign + s[at:], s[:at] + s[at+1:]} {
				if got := impl.SecOk(x); got != plainlyName(x) || got != (impl.SecMade(x).Op != 0) {
					t.Fatalf("SecOk(%q) = %v", x, got)
				}
			}
		}
	}
}

func TestAnyBytes(t *testing.T) {
	r := rand.New(rand.NewSource(3))
	for range 20000 {
		b := make([]byte, r.Intn(12))
		for i := range b {
			b[i] = byte(r.Intn(256))
		}
		s := string(b)
		if impl.SecOk(s) != plainlyName(s) {
			t.Fatalf("SecOk(%q) = %v", s, impl.SecOk(s))
		}
	}
	for i := range 256 {
		s := string([]byte{byte(i)}) + "1;"
		if impl.SecOk(s) != (i >= 'A' && i <= 'H') {
			t.Fatalf("SecOk(%q) = %v", s, impl.SecOk(s))
		}
	}
}

// An answer is new memory: no name that SecMade tells lies in the text that was asked.
func TestNamesToldAreNewMemory(t *testing.T) {
	for _, s := range someNames() {
		low := uintptr(unsafe.Pointer(unsafe.StringData(s)))
		h := impl.SecMade(s)
		for _, x := range []string{h.A, h.B} {
			if x == "" {
				continue
			}
			if at := uintptr(unsafe.Pointer(unsafe.StringData(x))); at >= low && at < low+uintptr(len(s)) {
				t.Fatalf("%q of %q shares its memory", x, s)
			}
		}
	}
}
