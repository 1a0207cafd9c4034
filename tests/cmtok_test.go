package tests

import (
	"math/rand"
	"slices"
	"strings"
	"testing"

	"loop.example/keyward/impl"
)

// Promise 85.
func TestACommitByItselfSaysWhatItMust(t *testing.T) {
	for _, s := range someSent() {
		if !impl.CmtOk(s.c) {
			t.Fatalf("%+v is not ok", s.c)
		}
		for i := range s.c.Boxes {
			if c := turnedCommit(s.c, func(c *impl.CmtCommit) { c.Boxes = slices.Delete(c.Boxes, i, i+1) }); !impl.CmtOk(c) {
				t.Fatalf("%+v is not ok, without its box %d", c, i)
			}
		}
		for _, by := range []func(c *impl.CmtCommit){
			func(c *impl.CmtCommit) { c.Add = c.Sender },
			func(c *impl.CmtCommit) { c.Remove = c.Sender },
			func(c *impl.CmtCommit) { c.Add, c.Remove = c.Sender, c.Sender },
			func(c *impl.CmtCommit) { c.Sender = c.Add },
			func(c *impl.CmtCommit) {
				c.Add, c.Leaf, c.Welcome = c.Sender, "kE98;", welcomeOf("kE97;", "A1;", "B1;")
			},
		} {
			if c := turnedCommit(s.c, by); impl.CmtOk(c) {
				t.Fatalf("%+v is ok, and was %+v", c, s.c)
			}
		}
		if s.c.Add == -1 && (s.c.Leaf != "" || s.c.Welcome != impl.CmtWelcome{}) {
			t.Fatalf("%+v is told though nobody comes", s.c.Welcome)
		}
		if c := turnedCommit(s.c, func(c *impl.CmtCommit) { c.Add = -1 }); impl.CmtOk(c) != (s.c.Add == -1) {
			t.Fatalf("%+v: %v", c, s.c.Add != -1)
		}
		if c := turnedCommit(s.c, func(c *impl.CmtCommit) { c.Add, c.Leaf, c.Welcome = -1, "", impl.CmtWelcome{} }); !impl.CmtOk(c) {
			t.Fatalf("%+v is not ok, where nobody comes", c)
		}
	}
}

// welcomeOf is what who comes is told, shut with its key.
func welcomeOf(key, init, secret string) impl.CmtWelcome {
	return impl.CmtWelcome{Key: key, Init: impl.KnwBox{Key: key, Secret: init}, Secret: impl.KnwBox{Key: key, Secret: secret}}
}

// Promise 85: wrong inputs, one by one.
func TestCommitsThatAreNotOk(t *testing.T) {
	comes, none := handSent()
	if !impl.CmtOk(comes.c) || !impl.CmtOk(none.c) {
		t.Fatal("by hand")
	}
	wrong := wrongCommits(comes.c, none.c)
	if len(wrong) < 1000 {
		t.Fatal(len(wrong))
	}
	for _, c := range append(wrong, impl.CmtCommit{}, impl.CmtCommit{Add: -1, Remove: -1}, impl.CmtCommit{Sender: 1, Name: "B1;", Add: -1, Remove: -1}) {
		if impl.CmtOk(c) || plainlyCommitOk(c) {
			t.Fatalf("%+v is ok", c)
		}
	}
}

// Promise 85: what a commit may be by itself, though no group would send it.
func TestWhatACommitMayBe(t *testing.T) {
	comes, none := handSent()
	long := "k" + nameOfSize(impl.SecLong-1)
	both := []func(c *impl.CmtCommit){
		func(c *impl.CmtCommit) { c.Sender = 0 },
		func(c *impl.CmtCommit) { c.Sender = 7 },
		func(c *impl.CmtCommit) { c.Name = "A1;" },
		func(c *impl.CmtCommit) { c.Name = "H99;" },
		func(c *impl.CmtCommit) { c.Tag = "" },
		func(c *impl.CmtCommit) { c.Tag = "x\xff" },
		func(c *impl.CmtCommit) { c.Tag = strings.Repeat("A1;", 100)[:300-len(c.Name)] },
		func(c *impl.CmtCommit) { c.Remove = -1 },
		func(c *impl.CmtCommit) { c.Remove = 7 },
		func(c *impl.CmtCommit) { c.Remove = 0 },
		func(c *impl.CmtCommit) { c.Remove = c.Add },
		func(c *impl.CmtCommit) { c.Keys = noKeys() },
		func(c *impl.CmtCommit) { c.Keys = slices.Repeat([]string{long}, 15) },
		func(c *impl.CmtCommit) { c.Boxes = nil },
		func(c *impl.CmtCommit) { c.Boxes = []impl.KnwBox{{Key: "A1;", Secret: "kB1;"}} },
		func(c *impl.CmtCommit) {
			c.Boxes = slices.Repeat([]impl.KnwBox{{Key: nameOfSize(300), Secret: nameOfSize(300)}}, 20)
		},
	}
	for i, by := range both {
		for _, c := range []impl.CmtCommit{turnedCommit(comes.c, by), turnedCommit(none.c, by)} {
			if !impl.CmtOk(c) || !plainlyCommitOk(c) {
				t.Errorf("%d: %+v is not ok", i, c)
			}
		}
	}
	for i, by := range []func(c *impl.CmtCommit){
		func(c *impl.CmtCommit) { c.Add = 0 },
		func(c *impl.CmtCommit) { c.Add = 7 },
		func(c *impl.CmtCommit) { c.Add = c.Remove },
		func(c *impl.CmtCommit) { c.Leaf = "kkA1;" },
		func(c *impl.CmtCommit) { c.Leaf = long },
		func(c *impl.CmtCommit) { c.Leaf, c.Welcome.Key = c.Welcome.Key, c.Leaf; shutWith(c, c.Welcome.Key) },
		func(c *impl.CmtCommit) { shutWith(c, long) },
		func(c *impl.CmtCommit) {
			c.Welcome.Init.Secret, c.Welcome.Secret.Secret = nameOfSize(300), nameOfSize(300)
		},
		func(c *impl.CmtCommit) {
			c.Welcome.Init.Secret, c.Welcome.Secret.Secret = c.Leaf, c.Welcome.Key
		},
	} {
		if c := turnedCommit(comes.c, by); !impl.CmtOk(c) || !plainlyCommitOk(c) {
			t.Errorf("%d: %+v is not ok", i, c)
		}
	}
}

// shutWith shuts all that who comes is told with a key.
func shutWith(c *impl.CmtCommit, key string) {
	c.Welcome.Key, c.Welcome.Init.Key, c.Welcome.Secret.Key = key, key, key
}

// The edges: how many boxes, and how long Tag and Name are together.
func TestBoundsOfACommit(t *testing.T) {
	comes, none := handSent()
	for _, sent := range []impl.CmtCommit{comes.c, none.c} {
		for many := range 30 {
			c := turnedCommit(sent, func(c *impl.CmtCommit) { c.Boxes = slices.Repeat([]impl.KnwBox{{Key: "kA1;", Secret: "B1;"}}, many) })
			if impl.CmtOk(c) != (many <= 20) {
				t.Errorf("%d boxes: %v", many, many > 20)
			}
		}
		for _, name := range []string{"A1;", "H99;"} {
			for size := range 310 {
				c := turnedCommit(sent, func(c *impl.CmtCommit) { c.Tag, c.Name = strings.Repeat("A1;", 110)[:size], name })
				if impl.CmtOk(c) != (size+len(name) <= 300) {
					t.Errorf("%d bytes and %q: %v", size, name, size+len(name) > 300)
				}
			}
		}
	}
}

// Whatever is turned: by the words of the document alone.
func TestWhichCommitsAreOk(t *testing.T) {
	r := rand.New(rand.NewSource(64))
	sent := someSent()
	ok := 0
	for range 40000 {
		c := copyOfCommit(sent[r.Intn(len(sent))].c)
		for range r.Intn(4) {
			turnAny(r, &c, sent[r.Intn(len(sent))].c)
		}
		if got := impl.CmtOk(c); got != plainlyCommitOk(c) {
			t.Fatalf("%+v: %v", c, got)
		} else if got {
			ok++
		}
	}
	if ok < 8000 || ok > 32000 {
		t.Fatalf("%d were ok", ok)
	}
}
