package tests

import (
	"math/rand"
	"regexp"
	"strings"

	"loop.example/keyward/impl"
)

// secretToken is one sign of a name, by how many names must stand behind it: none, one or two.
var secretToken = regexp.MustCompile(`^(?:([A-H][1-9][0-9]?;)|(n|k|m[A-H]|r[1-9])|(e))`)

// plainlyName says whether a text is a secret's name by counting names that still must come, so not as the program does.
func plainlyName(s string) bool {
	if len(s) > impl.SecLong {
		return false
	}
	need := 1
	for need > 0 {
		m := secretToken.FindStringSubmatch(s)
		if m == nil {
			return false
		}
		if m[1] != "" {
			need--
		}
		if m[3] != "" {
			need++
		}
		s = s[len(m[0]):]
	}
	return s == ""
}

// writtenName is some name, written by hand, so that no function of the program has a part in it.
func writtenName(r *rand.Rand, deep int) string {
	letter := string("ABCDEFGH"[r.Intn(8)])
	if deep <= 0 {
		n := []string{"1", "9", "10", "42", "99"}[r.Intn(5)]
		return letter + n + ";"
	}
	switch r.Intn(6) {
	case 0:
		return "n" + writtenName(r, deep-1)
	case 1:
		return "k" + writtenName(r, deep-1)
	case 2:
		return "e" + writtenName(r, deep-1) + writtenName(r, deep-2)
	case 3:
		return "m" + letter + writtenName(r, deep-1)
	case 4:
		return "r" + string("123456789"[r.Intn(9)]) + writtenName(r, deep-1)
	}
	return writtenName(r, 0)
}

// someNames is names of all ways, small ones first, each once; none has more than SecLong bytes.
func someNames() []string {
	r := rand.New(rand.NewSource(1))
	names := []string{"A1;", "H99;", "nA1;", "kA1;", "eA1;A1;", "eA1;B2;", "eB2;A1;", "mAA1;", "mHA1;", "r1A1;", "r9A1;",
		"nkA1;", "knA1;", "eeA1;B1;C1;", "eA1;eB1;C1;", "mAmBA1;", "r1r2A1;", nameOfSize(impl.SecLong - 1), nameOfSize(impl.SecLong)}
	seen := map[string]int{}
	for i, s := range names {
		seen[s] = i
	}
	for len(names) < 400 {
		s := writtenName(r, 1+r.Intn(9))
		if _, ok := seen[s]; ok || len(s) > impl.SecLong {
			continue
		}
		seen[s] = len(names)
		names = append(names, s)
	}
	return names
}

// nameOfSize is a name of just that many bytes, 3 at least.
func nameOfSize(size int) string {
	return strings.Repeat("n", size-3) + "A1;"
}

// noNames is texts that are none: empty, cut short, with something behind, with a wrong letter, out of bounds, any bytes.
func noNames() []string {
	return []string{
		"", " ", ";", "A", "H", "A;", "A1", "1;", "A;1", "1A;", ";A1",
		"A0;", "A00;", "A01;", "A010;", "A100;", "A999;", "A-1;", "A+1;", "A 1;", "A1 ;", " A1;", "A1; ", "A1;\n", "A1;\x00", "A1;;", "A1.", "A1:", "A1.0;", "A0x1;", "A1_0;",
		"I1;", "@1;", "a1;", "h1;", "Z1;", "AA1;", "\xc11;", "Á1;", "A１;", "A٣;",
		"A18446744073709551617;", "A4294967297;", "A256;", "A257;",
		"n", "nn", "nA", "nA1", "nA0;", "n1;", "n;", "N", "NA1;", "nA1;A1;", "nA1;n",
		"k", "kk", "kA", "kA1", "kI1;", "KA1;", "kA1;k",
		"e", "eA1;", "eA1;e", "eA1;B", "eA1;B1", "eA1;B1;C1;", "eeA1;B1;", "eI1;A1;", "eA1;I1;", "e;A1;", "eA1;;B1;", "E", "eA1;nB1", "eA1; B1;",
		"m", "mA", "mA1;", "m1A1;", "mIA1;", "mmA1;", "maA1;", "mAA1", "mAA1;A1;", "m0A1;", "mABA1;", "mA;",
		"r", "r1", "rA1;", "r0A1;", "r10A1;", "r12A1;", "r01A1;", "r19A1;", "r-1A1;", "rrA1;", "r1A1", "r1A1;A1;", "r1;A1;", "r11;", "r99A1;", "r18446744073709551617A1;",
		"nkemr", "x", "xA1;", "\x00", "\xff", "\xff\xfe\xfd", "nA1\xff", "n\xffA1;", "日本", "A日;",
		nameOfSize(impl.SecLong + 1), nameOfSize(impl.SecLong + 2), nameOfSize(100000),
		strings.Repeat("n", impl.SecLong), strings.Repeat("e", impl.SecLong), strings.Repeat("e", 100000), "A" + strings.Repeat("1", 200) + ";",
		strings.Repeat("A1;", 100), "e" + strings.Repeat("A1;", 100),
	}
}

// made is what a secret was made as, made again by the functions of the program.
func made(h impl.SecHow) string {
	switch h.Op {
	case impl.SecNew:
		return impl.MakNew(h.Who, h.N)
	case impl.SecNext:
		return impl.MakNext(h.A)
	case impl.SecKey:
		return impl.MakKey(h.A)
	case impl.SecEpoch:
		return impl.MakEpoch(h.A, h.B)
	case impl.SecSay:
		return impl.MakSay(h.A, h.Who)
	case impl.SecRoom:
		return impl.MakRoom(h.A, h.N)
	}
	return ""
}
