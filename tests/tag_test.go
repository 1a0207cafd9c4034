package tests

import (
	"math/rand"
	"slices"
	"strings"
	"testing"

	"loop.example/keyward/impl"
)

// someTags is texts of commits' names, and such as are none: empty, without a sign at their end, with two, of any bytes.
func someTags() []string {
	r := rand.New(rand.NewSource(101))
	all := []string{"", ";", ";;", ";;;", "A", "A3", "A3;", "A3;;", ";A3;", "A3;B", "A3;B4", "A3;B4;", "A3;B4;x", "A3;B4;;", "A3;;B4;", "A33;", "A33;B4;", "AA3;", "a3;", "A3 ;", "A3:", "A3,B4;",
		"\x00", "\x00;", "\xff;\xfe", "\xff\xff;", "é;", "日;本", "A3;\n", "；", "A3；", strings.Repeat(";", 500), strings.Repeat("A3;", 300), strings.Repeat("x", 1000), strings.Repeat("x", 1000) + ";"}
	for range 200 {
		tag := ""
		for range r.Intn(6) {
			tag += []string{"A3;", "A4;", "B3;", "B33;", "A", "3", ";", "x", "\xff"}[r.Intn(9)]
		}
		all = append(all, tag)
	}
	return all
}

// Promise 48.
func TestCommitsBeginWithThemselves(t *testing.T) {
	tags := someTags()
	for _, tag := range tags {
		if !impl.TagHas(tag, tag) || !impl.TagHas(tag, "") || tag != "" && impl.TagHas("", tag) {
			t.Fatalf("%q", tag)
		}
		for i := range len(tag) {
			if !impl.TagHas(tag, tag[:i]) || impl.TagHas(tag[:i], tag) {
				t.Fatalf("%q and %q", tag, tag[:i])
			}
		}
	}
	with := 0
	for _, a := range tags {
		for _, b := range tags {
			if got, want := impl.TagHas(a, b), plainlyBegins(a, b); got != want {
				t.Fatalf("%v, of %q and %q", got, a, b)
			}
			if !impl.TagHas(a, b) {
				continue
			}
			for _, c := range tags {
				if impl.TagHas(b, c) {
					with++
					if !impl.TagHas(a, c) {
						t.Fatalf("%q, %q and %q", a, b, c)
					}
				}
			}
		}
	}
	if with < 5000 {
		t.Fatal(with)
	}
}

// Promise 48: by hand; one text begins with another one in the middle of a name as well, and byte by byte.
func TestWithWhatCommitsBegin(t *testing.T) {
	for _, c := range []struct {
		tag, head string
		want      bool
	}{
		{"A3;B4;", "A3;", true}, {"A3;B4;", "A3;B4;", true}, {"A3;B4;", "A3;B4;C5;", false}, {"A3;B4;", "B4;", false}, {"A3;B4;", "", true}, {"", "", true}, {"", "A3;", false},
		{"A33;", "A3", true}, {"A33;", "A", true}, {"A33;", "A3;", false}, {"A3;B4;", "A3;B", true}, {"A3;B4;", "A3;b", false}, {"A3;B4;", "A3;;", false}, {"A3;;", "A3;", true}, {"A3;", "A3;;", false},
		{"A3;B4;", " A3;", false}, {"A3;B4;", "a3;", false}, {"\xff;", "\xff", true}, {"\xff;", "\xfe", false}, {"é;", "\xc3", true}, {"A3;\x00", "A3;\x00", true}, {"A3;\x00", "A3;\x00\x00", false},
	} {
		if got := impl.TagHas(c.tag, c.head); got != c.want {
			t.Errorf("%v, of %q and %q", got, c.tag, c.head)
		}
	}
}

// Promise 49.
func TestCommitsAreToldOneByOne(t *testing.T) {
	for _, tag := range someTags() {
		names := impl.TagNames(tag)
		if want := plainlyNames(tag); !slices.Equal(names, want) {
			t.Fatalf("%q, not %q, of %q", names, want, tag)
		}
		if got := strings.Join(names, ""); got != tag[:strings.LastIndex(tag, ";")+1] {
			t.Fatalf("%q, of %q", got, tag)
		}
		for _, name := range names {
			if strings.Index(name, ";") != len(name)-1 {
				t.Fatalf("%q, of %q", name, tag)
			}
		}
	}
}

// Promise 49: by hand.
func TestNamesOfCommits(t *testing.T) {
	for _, c := range []struct {
		tag  string
		want []string
	}{
		{"", nil}, {"A3", nil}, {"x", nil}, {"A3;", []string{"A3;"}}, {"A3;B4;x", []string{"A3;", "B4;"}}, {"A3;B4", []string{"A3;"}}, {"A3;B4;C99;", []string{"A3;", "B4;", "C99;"}},
		{";", []string{";"}}, {";;", []string{";", ";"}}, {"A3;;", []string{"A3;", ";"}}, {";A3;", []string{";", "A3;"}}, {"A3;;B4;", []string{"A3;", ";", "B4;"}},
		{"A3 B4;", []string{"A3 B4;"}}, {"\xff;\x00", []string{"\xff;"}}, {"\n;é;", []string{"\n;", "é;"}}, {"A3；", nil},
	} {
		if got := impl.TagNames(c.tag); !slices.Equal(got, c.want) {
			t.Errorf("%q, not %q, of %q", got, c.want, c.tag)
		}
	}
	for _, many := range []int{13, 100, 30000} {
		if names := impl.TagNames(strings.Repeat("A3;", many) + "A3"); len(names) != many || names[many-1] != "A3;" {
			t.Fatalf("%d, of %d", len(names), many)
		}
	}
}

// Promise 87.
func TestTwoBeginningsOfOneAreOneOfTheOther(t *testing.T) {
	tags, both := someTags(), 0
	for _, tag := range tags {
		for _, a := range tags {
			for _, b := range tags {
				if !impl.TagHas(tag, a) || !impl.TagHas(tag, b) {
					continue
				}
				both++
				if !impl.TagHas(a, b) && !impl.TagHas(b, a) {
					t.Fatalf("%q, of %q and %q", tag, a, b)
				}
			}
		}
	}
	for _, p := range walked(102, 40, 60, ofAny) {
		for _, tag := range tagsOf(rand.New(rand.NewSource(1)), p.w) {
			for a := range p.groups {
				for b := range p.groups {
					if impl.TagHas(tag, a) && impl.TagHas(tag, b) && !impl.TagHas(a, b) && !impl.TagHas(b, a) {
						t.Fatalf("%q, of %q and %q", tag, a, b)
					}
				}
			}
		}
	}
	if both < 5000 {
		t.Fatal(both)
	}
}

// No text in an answer lies in what was asked, nor in another one.
func TestNamesOfCommitsAreNewMemory(t *testing.T) {
	for _, tag := range someTags() {
		tag = strings.Clone(tag)
		names := impl.TagNames(tag)
		lieApart(t, []string{tag}, names)
		turn(names, "turned")
		if again := impl.TagNames(tag); !slices.Equal(again, plainlyNames(tag)) {
			t.Fatalf("%q, of %q", again, tag)
		}
	}
}
