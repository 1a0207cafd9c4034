package impl

import (
	"strconv"
	"strings"
)

// How a secret is made: anew; from another one, for the place above; the key of one; what a group has, from what it had and another one; what one says with, from what a group has; what a room has.
const (
	SecNew   = 1
	SecNext  = 2
	SecKey   = 3
	SecEpoch = 4
	SecSay   = 5
	SecRoom  = 6
)

// SecMany is how many there are at most in a group, SecMost the greatest number of a new secret, SecLong how many bytes a secret's name has at most, SecRooms how many rooms there are.
const (
	SecMany  = 8
	SecMost  = 99
	SecLong  = 300
	SecRooms = 9
)

// SecHow is how a secret was made: by whom and which one, or of which room; and from which others.
type SecHow struct {
	Op  int
	Who int
	N   int
	A   string
	B   string
}

// secret is how one secret is made; each way is a type of its own.
type secret interface {
	// name writes what is made so, whatever its size; nameOf bounds it.
	name() string
}

type newSecret struct {
	who int
	n   int
}

type nextSecret struct {
	from string
}

type keySecret struct {
	from string
}

type epochSecret struct {
	first  string
	second string
}

type saySecret struct {
	from string
	who  int
}

type roomSecret struct {
	from string
	room int
}

func (s newSecret) name() string   { return letterOf(s.who) + strconv.Itoa(s.n) + ";" }
func (s nextSecret) name() string  { return "n" + s.from }
func (s keySecret) name() string   { return "k" + s.from }
func (s epochSecret) name() string { return "e" + s.first + s.second }
func (s saySecret) name() string   { return "m" + letterOf(s.who) + s.from }
func (s roomSecret) name() string  { return "r" + strconv.Itoa(s.room) + s.from }

// MakNew is the n-th secret that one makes anew.
func MakNew(who int, n int) string {
	if !isOne(who) || n < 1 || n > SecMost {
		return ""
	}
	return nameOf(newSecret{who: who, n: n})
}

// SecOk says whether a text is a secret's name.
func SecOk(s string) bool {
	_, ok := readSecret(s)
	return ok
}

// MakNext is a secret for the place above, from one.
func MakNext(s string) string {
	if !SecOk(s) {
		return ""
	}
	return nameOf(nextSecret{from: s})
}

// MakKey is the key of a secret.
func MakKey(s string) string {
	if !SecOk(s) {
		return ""
	}
	return nameOf(keySecret{from: s})
}

// MakEpoch is what a group has, from what it had, and another secret.
func MakEpoch(a string, b string) string {
	// Each is asked by itself: two texts that are no names can make one together.
	if !SecOk(a) || !SecOk(b) {
		return ""
	}
	return nameOf(epochSecret{first: a, second: b})
}

// MakSay is what one says with, from what the group has.
func MakSay(s string, who int) string {
	if !SecOk(s) || !isOne(who) {
		return ""
	}
	return nameOf(saySecret{from: s, who: who})
}

// MakRoom is what a room has, from what the group has.
func MakRoom(s string, room int) string {
	if !SecOk(s) || room < 1 || room > SecRooms {
		return ""
	}
	return nameOf(roomSecret{from: s, room: room})
}

// SecMade is how a secret was made.
func SecMade(s string) SecHow {
	made, ok := readSecret(s)
	if !ok {
		return SecHow{}
	}
	return howOf(made)
}

// howOf tells a secret's way; names are cloned, as they lie in the text that was read.
func howOf(made secret) SecHow {
	switch x := made.(type) {
	case newSecret:
		return SecHow{Op: SecNew, Who: x.who, N: x.n}
	case nextSecret:
		return SecHow{Op: SecNext, A: strings.Clone(x.from)}
	case keySecret:
		return SecHow{Op: SecKey, A: strings.Clone(x.from)}
	case epochSecret:
		return SecHow{Op: SecEpoch, A: strings.Clone(x.first), B: strings.Clone(x.second)}
	case saySecret:
		return SecHow{Op: SecSay, Who: x.who, A: strings.Clone(x.from)}
	case roomSecret:
		return SecHow{Op: SecRoom, N: x.room, A: strings.Clone(x.from)}
	}
	return SecHow{}
}

// nameOf is the name of what is made so; empty, if it is too long for one.
func nameOf(made secret) string {
	name := made.name()
	if len(name) > SecLong {
		return ""
	}
	return name
}

func isOne(who int) bool {
	return who >= 0 && who < SecMany
}

func letterOf(who int) string {
	return string(rune('A' + who))
}

// readSecret reads a whole text as a secret's name.
func readSecret(s string) (secret, bool) {
	// Ahead of reading, so that no text, however long, is descended into without end.
	if len(s) > SecLong {
		return nil, false
	}
	r := secretReader{text: s}
	made, ok := r.readHow()
	if !ok || r.at != len(s) {
		return nil, false
	}
	return made, true
}

// secretReader goes through a text, of which all ahead of at is read.
type secretReader struct {
	text string
	at   int
}

// readHow reads one name, however much is behind it.
func (r *secretReader) readHow() (secret, bool) {
	sign, ok := r.readSign()
	if !ok {
		return nil, false
	}
	switch sign {
	case 'n':
		from, ok := r.readName()
		return nextSecret{from: from}, ok
	case 'k':
		from, ok := r.readName()
		return keySecret{from: from}, ok
	case 'e':
		return r.readEpoch()
	case 'm':
		return r.readSay()
	case 'r':
		return r.readRoom()
	}
	// The sign is no way of its own: it can only be the letter of who made it anew.
	r.at--
	return r.readNew()
}

func (r *secretReader) readNew() (secret, bool) {
	who, ok := r.readLetter()
	if !ok {
		return nil, false
	}
	n, ok := r.readNumber(SecMost)
	if !ok {
		return nil, false
	}
	end, ok := r.readSign()
	return newSecret{who: who, n: n}, ok && end == ';'
}

func (r *secretReader) readEpoch() (secret, bool) {
	first, ok := r.readName()
	if !ok {
		return nil, false
	}
	second, ok := r.readName()
	return epochSecret{first: first, second: second}, ok
}

func (r *secretReader) readSay() (secret, bool) {
	who, ok := r.readLetter()
	if !ok {
		return nil, false
	}
	from, ok := r.readName()
	return saySecret{from: from, who: who}, ok
}

func (r *secretReader) readRoom() (secret, bool) {
	room, ok := r.readNumber(SecRooms)
	if !ok {
		return nil, false
	}
	from, ok := r.readName()
	return roomSecret{from: from, room: room}, ok
}

// readName reads one name, and is the piece of text that it takes.
func (r *secretReader) readName() (string, bool) {
	start := r.at
	if _, ok := r.readHow(); !ok {
		return "", false
	}
	return r.text[start:r.at], true
}

func (r *secretReader) readSign() (byte, bool) {
	if r.at >= len(r.text) {
		return 0, false
	}
	sign := r.text[r.at]
	r.at++
	return sign, true
}

func (r *secretReader) readLetter() (int, bool) {
	sign, ok := r.readSign()
	who := int(sign) - 'A'
	return who, ok && isOne(who)
}

// readNumber reads a number in 1..most, of all digits that stand there.
func (r *secretReader) readNumber(most int) (int, bool) {
	n := 0
	for r.at < len(r.text) && r.text[r.at] >= '0' && r.text[r.at] <= '9' {
		n = n*10 + int(r.text[r.at]-'0')
		r.at++
		// At once: 0 here is a needless nought, and more digits could wrap round.
		if n < 1 || n > most {
			return 0, false
		}
	}
	return n, n > 0
}
