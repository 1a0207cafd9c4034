package tests

import (
	"math/rand"
	"slices"
	"strings"

	"loop.example/keyward/impl"
)

// plainlyBoxes is all boxes that went over the log, by the words of the document.
func plainlyBoxes(w impl.GrpWorld) []impl.KnwBox {
	var boxes []impl.KnwBox
	for _, c := range w.Log {
		boxes = append(boxes, c.Boxes...)
		if c.Add >= 0 && c.Add <= 7 {
			boxes = append(boxes, c.Welcome.Init, c.Welcome.Secret)
		}
	}
	return boxes
}

// plainlyKnows is all that can be known in a world, by the words of the document.
func plainlyKnows(w impl.GrpWorld) []string {
	if !plainlyWorldOk(w) {
		return nil
	}
	return plainlyOpen(w.Spy, plainlyBoxes(w))
}

// plainlyHears is which frames can be opened, by the words of the document.
func plainlyHears(w impl.GrpWorld) []int {
	known := plainlyKnows(w)
	var hears []int
	for at, f := range w.Frames {
		if plainlyWorldOk(w) && plainlyMake(known, f.Key) {
			hears = append(hears, at)
		}
	}
	return hears
}

// plainlyNames is a text's pieces, by the words of the document, byte by byte.
func plainlyNames(tag string) []string {
	var names []string
	piece := ""
	for i := range len(tag) {
		piece += tag[i : i+1]
		if tag[i] == ';' {
			names, piece = append(names, piece), ""
		}
	}
	return names
}

// plainlyBegins is whether a text begins with another one, byte by byte.
func plainlyBegins(tag, head string) bool {
	for i := range len(head) {
		if i >= len(tag) || tag[i] != head[i] {
			return false
		}
	}
	return true
}

// plainlyHealed is whether one is healed from commits to others, of a world that is ok, by the words of the document.
func plainlyHealed(log []impl.CmtCommit, who int, from, tag string) bool {
	if !plainlyBegins(tag, from) {
		return false
	}
	for _, name := range plainlyNames(tag[len(from):]) {
		for _, c := range log {
			if c.Name != name {
				continue
			}
			if who >= 0 && (c.Sender == who || c.Remove == who) {
				return true
			}
			break
		}
	}
	return false
}

// plainlyMayKnow is whether what was stolen lets one know what a group has, of a world that is ok, by the words of the document.
func plainlyMayKnow(w impl.GrpWorld, tag string) bool {
	return slices.ContainsFunc(w.Stolen, func(x impl.GrpSteal) bool {
		return plainlyBegins(tag, x.Tag) && !plainlyHealed(w.Log, x.Who, x.Tag, tag)
	})
}

// boxedWorld is a world that was written, that is ok: what is in boxes and welcomes, what was stolen, and keys of frames are of few names, so that much can be opened.
func boxedWorld(r *rand.Rand, w impl.GrpWorld) impl.GrpWorld {
	names := fewNames()
	any := func() string { return names[r.Intn(len(names))] }
	keys := slices.DeleteFunc(fewNames(), func(s string) bool { return !plainlyKey(s) })
	w = copyOfWorld(w)
	for at := range w.Log {
		c := &w.Log[at]
		c.Boxes = pickBoxes(r, names, []int{0, 1, 3, 6, 20}[r.Intn(5)])
		if key := keys[r.Intn(len(keys))]; c.Add >= 0 && key != c.Leaf {
			c.Welcome = welcomeOf(key, any(), any())
		}
	}
	w.Spy = pick(r, names, 3)
	for at := range w.Frames {
		if r.Intn(3) > 0 {
			w.Frames[at].Key = plainlySaid(any(), w.Frames[at].From)
		}
	}
	return w
}

// tagsOf is texts that may be asked of a world: those of its seats, commits and thefts, cut short, put together, with signs too few and too many, and of no commit.
func tagsOf(r *rand.Rand, w impl.GrpWorld) []string {
	tags := []string{"", ";", ";;", "A", "A3", "A3;", "A3;;", ";A3;", "x", "\xff;\x00", "H99;H98;", strings.Repeat("A3;", 200)}
	var names []string
	for _, c := range w.Log {
		names = append(names, c.Name)
		tags = append(tags, c.Tag, c.Tag+c.Name, c.Name, c.Tag+";"+c.Name, c.Tag+c.Name+";", c.Tag+"x"+c.Name, c.Name+c.Tag, c.Tag+c.Name[:len(c.Name)-1])
	}
	for _, x := range w.Stolen {
		tags = append(tags, x.Tag, x.Tag+"A", x.Tag+"\xff;")
	}
	for range 10 {
		tag := ""
		for range r.Intn(6) {
			if len(names) > 0 {
				tag += names[r.Intn(len(names))]
			}
		}
		tags = append(tags, tag, tag[:r.Intn(len(tag)+1)])
	}
	return tags
}

// past is a group's world, and what was so on the way there, from GrpNew on.
type past struct {
	w       impl.GrpWorld
	groups  map[string]string // what a group has, by the commits that it is behind
	had     [8][]string       // all that each has ever had, the two secrets by which it comes too; each once
	saidAt  []string          // the commits behind which each frame was said
	heardAt []string          // the commits behind which each one heard was heard
}

func begunBy(who int) *past {
	p := &past{w: impl.GrpNew(who), groups: map[string]string{}}
	p.look()
	return p
}

// happens lets something happen, and is the world ahead of it.
func (p *past) happens(e impl.EvEvent) impl.GrpWorld {
	was := p.w
	p.w = impl.GrpStep(was, e)
	if len(p.w.Frames) > len(was.Frames) {
		p.saidAt = append(p.saidAt, p.w.Seats[e.Who].Tag)
	}
	if len(p.w.Told) > len(was.Told) {
		p.heardAt = append(p.heardAt, p.w.Seats[e.Who].Tag)
	}
	p.look()
	return was
}

func (p *past) look() {
	for who, m := range p.w.Seats {
		if !m.In {
			continue
		}
		if _, ok := p.groups[m.Tag]; !ok {
			p.groups[m.Tag] = m.Init
		}
		p.gives(who, m.Init)
		for _, own := range m.Own {
			p.gives(who, own.Secret)
		}
	}
	for _, x := range p.w.Waits {
		p.gives(x.Who, x.Leaf)
		p.gives(x.Who, x.Key)
	}
}

func (p *past) gives(who int, secret string) {
	if !slices.Contains(p.had[who], secret) {
		p.had[who] = append(p.had[who], secret)
	}
}

// likelyEvent is something that most often can happen in a world: one goes on, lets one in who is not, and one go who is, hears, comes, says, or is stolen from; now and then anything.
func likelyEvent(r *rand.Rand, w impl.GrpWorld) impl.EvEvent {
	in := whoIsIn(w)
	if next := mayFollow(w); len(next) > 0 && r.Intn(5) < 3 {
		return next[r.Intn(len(next))]
	}
	if r.Intn(12) == 0 || len(in) == 0 {
		return someEvent(r, w)
	}
	who := in[r.Intn(len(in))]
	switch r.Intn(8) {
	case 0:
		return isStolenOf(who)
	case 1, 2, 3:
		return saysText(who, []string{"", "a", "hi", "ok"}[r.Intn(4)])
	}
	e, members := goesOn(who, -1, -1), impl.TreIn(w.Seats[who].Tree)
	if other := r.Intn(8); r.Intn(3) > 0 && !slices.Contains(members, other) {
		e.Add = other
	}
	if other := members[r.Intn(len(members))]; r.Intn(3) == 0 {
		e.Remove = other
	}
	if r.Intn(4) == 0 && e.Remove >= 0 {
		e.Add = e.Remove
	}
	return e
}

// Of whom something is stolen on a walk.
const (
	ofAny = iota
	ofNobody
	ofOneAlone
)

// walks is some groups behind what happens to happen; each step is looked at.
func walks(seed int64, many, events, victims int, look func(was impl.GrpWorld, e impl.EvEvent, p *past)) []*past {
	r := rand.New(rand.NewSource(seed))
	var all []*past
	for range many {
		p, only := begunBy(r.Intn(8)), -1
		for range events {
			e := likelyEvent(r, p.w)
			if e.Kind == impl.EvSteal && victims == ofNobody {
				continue
			}
			if e.Kind == impl.EvSteal && victims == ofOneAlone {
				if only < 0 {
					only = e.Who
				}
				e.Who = only
			}
			was := p.happens(e)
			if look != nil {
				look(was, e, p)
			}
		}
		all = append(all, p)
	}
	return all
}

// walked is walks at which nobody looks.
func walked(seed int64, many, events, victims int) []*past {
	return walks(seed, many, events, victims, nil)
}

// stolenOnTheWay is whether something was stolen behind commits, or some of them.
func stolenOnTheWay(w impl.GrpWorld, tag string) bool {
	return slices.ContainsFunc(w.Stolen, func(x impl.GrpSteal) bool { return plainlyBegins(tag, x.Tag) })
}

// commitsOf is the commits of a world whose names a text has.
func commitsOf(w impl.GrpWorld, tag string) []impl.CmtCommit {
	var all []impl.CmtCommit
	for _, name := range plainlyNames(tag) {
		for _, c := range w.Log {
			if c.Name == name {
				all = append(all, c)
			}
		}
	}
	return all
}

// inCommon is the names with which two texts begin.
func inCommon(a, b string) string {
	same := ""
	for _, name := range plainlyNames(a) {
		if !plainlyBegins(b, same+name) {
			break
		}
		same += name
	}
	return same
}
