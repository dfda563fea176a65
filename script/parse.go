package script

import (
	"strconv"
	"strings"

	"atrium/api"
)

// The places of lines, in the order in which they stand; placeBegin is ahead of the first one.
const (
	placeBegin = iota
	placeTenant
	placeEngine
	placeDisk
	placeTerm
	placePicks
	placeTicks
	placeDraws
	placeFault
	placeAt
	placeCrash
)

// reader takes down what lines say.
type reader struct {
	c     api.Config
	l     []api.Term
	place int // that of the last line
}

// form is how lines with a word are read: their place, the places of the lines behind which they may stand, from the first to the last of these, and what takes their other words.
type form struct {
	place int
	first int
	last  int
	read  func(r *reader, words []string) bool
}

// forms is all forms, by their words.
func forms() map[string]form {
	return map[string]form{
		wordTenant: {placeTenant, placeBegin, placeTenant, (*reader).tenant},
		wordEngine: {placeEngine, placeBegin, placeTenant, (*reader).engine},
		wordDisk:   {placeDisk, placeEngine, placeEngine, (*reader).disk},
		wordTerm:   {placeTerm, placeDisk, placeCrash, (*reader).term},
		wordPicks:  {placePicks, placeTerm, placeTerm, (*reader).picks},
		wordTicks:  {placeTicks, placeTerm, placePicks, (*reader).ticks},
		wordDraws:  {placeDraws, placeTerm, placeTicks, (*reader).draws},
		wordFault:  {placeFault, placeTerm, placeFault, (*reader).fault},
		wordAt:     {placeAt, placeTerm, placeAt, (*reader).at},
		wordCrash:  {placeCrash, placeTerm, placeAt, (*reader).crash},
	}
}

// Parse is what a text says; the number of the line at fault.
func Parse(text string) (api.Config, []api.Term, api.Errno, int) {
	if len(text) > api.MaxScript {
		return api.Config{}, nil, api.ErrLong, 0
	}
	r := &reader{}
	n, is := r.lines(text)
	switch {
	case !is || r.place < placeDisk:
		return api.Config{}, nil, api.ErrLine, n
	case tooMany(r.c, r.l):
		return api.Config{}, nil, api.ErrLong, 0
	}
	return r.c, r.l, api.OK, 0
}

// lines reads lines up to the first one that can not stand there: how many it read, and whether these are all.
func (r *reader) lines(text string) (int, bool) {
	byWord := forms()
	n := 0
	for text != "" {
		line, rest, ended := strings.Cut(text, lineEnd)
		if !ended || !r.line(byWord, line) {
			return n, false
		}
		text = rest
		n++
	}
	return n, true
}

// line reads a line; false, if it can not stand there.
func (r *reader) line(byWord map[string]form, line string) bool {
	words, is := split(line)
	if !is {
		return false
	}
	f, is := byWord[words[0]]
	if !is || r.place < f.first || r.place > f.last {
		return false
	}
	r.place = f.place
	return f.read(r, words[1:])
}

// split is a line's words; false, if they are not parted by one blank each. A line without words is one empty word.
func split(line string) ([]string, bool) {
	var words []string
	for rest := line; ; {
		n := wordSize(rest)
		words = append(words, rest[:n])
		if n == len(rest) {
			return words, true
		}
		if rest[n] != blank {
			return nil, false
		}
		rest = rest[n+1:]
	}
}

// wordSize is how many bytes the word has with which s begins. A quoted text may have blanks in it: it goes up to the mark that ends it, or, without one, up to the end of s, and is none then.
func wordSize(s string) int {
	if s == "" || s[0] != mark {
		return blankAt(s)
	}
	n := 1
text:
	for n < len(s) {
		switch s[n] {
		case mark:
			n++
			break text
		case escape:
			n++
		}
		n++
	}
	return min(n, len(s))
}

// blankAt is where the first blank of s is, or its end.
func blankAt(s string) int {
	if n := strings.IndexByte(s, blank); n >= 0 {
		return n
	}
	return len(s)
}

func (r *reader) tenant(words []string) bool {
	var t api.Tenant
	is := fill(words, &t.Name, &t.Key, &t.Quota)
	r.c.Tenants = append(r.c.Tenants, t)
	return is
}

func (r *reader) engine(words []string) bool {
	o := &r.c.Options
	return fill(words, &o.Shape.Block, &o.Shape.Restart, &o.Shape.Bits, &o.Mem, &o.Zero, &o.Base, &o.Fan)
}

func (r *reader) disk(words []string) bool {
	return fill(words, &r.c.Capacity)
}

func (r *reader) term(words []string) bool {
	var t api.Term
	is := fill(words, &t.Steps, &t.Stop)
	r.l = append(r.l, t)
	return is
}

// last is the term whose lines are read.
func (r *reader) last() *api.Term {
	return &r.l[len(r.l)-1]
}

func (r *reader) picks(words []string) bool {
	t := r.last()
	return fill(words, &t.Timing.Picks) && len(words) > 0
}

func (r *reader) ticks(words []string) bool {
	t := r.last()
	return fill(words, &t.Timing.Ticks) && len(words) > 0
}

func (r *reader) draws(words []string) bool {
	t := r.last()
	return fill(words, &t.Timing.Draws) && len(words) > 0
}

func (r *reader) fault(words []string) bool {
	var x api.Fault
	is := fill(words, &x.Op, &x.Nth, &x.Kind)
	t := r.last()
	t.Faults = append(t.Faults, x)
	return is
}

func (r *reader) at(words []string) bool {
	var x api.Arrival
	is := fill(words, &x.Step, &x.Conn, &x.Bytes)
	t := r.last()
	t.Arrivals = append(t.Arrivals, x)
	return is
}

// crash is not printed where it says nothing, so it may not stand there then.
func (r *reader) crash(words []string) bool {
	x := &r.last().Crash
	return fill(words, &x.Dir, &x.Keep) && (x.Dir != 0 || len(x.Keep) > 0)
}

// fill puts what words say into places, in order; false, if there is a word too many or too few, or one says no such thing. A list takes all words that are left.
func fill(words []string, places ...any) bool {
	for _, place := range places {
		n := 1
		switch place.(type) {
		case *[]int, *[]uint64:
			n = len(words)
		}
		if n > len(words) {
			return false
		}
		for _, word := range words[:n] {
			if !fillOne(word, place) {
				return false
			}
		}
		words = words[n:]
	}
	return len(words) == 0
}

// fillOne puts what a word says into a place, or behind the others in a list.
func fillOne(word string, place any) bool {
	is := false
	switch x := place.(type) {
	case *string:
		*x, is = Unquote(word)
	case *int:
		*x, is = number(word)
	case *[]int:
		var n int
		n, is = number(word)
		*x = append(*x, n)
	case *[]uint64:
		var n uint64
		n, is = great(word)
		*x = append(*x, n)
	}
	return is
}

// number is the number that a word is: it is that, if it is written so again.
func number(word string) (int, bool) {
	n, e := strconv.Atoi(word)
	return n, e == nil && isShort(n) && strconv.Itoa(n) == word
}

// great is the great number that a word is.
func great(word string) (uint64, bool) {
	n, e := strconv.ParseUint(word, 10, 64)
	return n, e == nil && strconv.FormatUint(n, 10) == word
}
