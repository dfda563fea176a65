package script_test

import (
	"fmt"
	"math/rand"
	"reflect"
	"regexp"
	"strconv"
	"strings"
	"testing"

	"atrium/api"
	"atrium/script"
)

// want fails the test, if what was told is not what should be.
func want[T any](t *testing.T, what string, got, should T) {
	t.Helper()
	if !reflect.DeepEqual(got, should) {
		t.Errorf("%.300s: %.600s, not %.600s", what, fmt.Sprintf("%+v", got), fmt.Sprintf("%+v", should))
	}
}

// plainTerms is terms with nil in the place of empty lists, and nil in that of none.
func plainTerms(l []api.Term) []api.Term {
	var all []api.Term
	for _, t := range l {
		t.Arrivals, t.Faults = plainList(t.Arrivals), plainList(t.Faults)
		t.Timing = api.Timing{Picks: plainList(t.Timing.Picks), Ticks: plainList(t.Timing.Ticks), Draws: plainList(t.Timing.Draws)}
		t.Crash.Keep = plainList(t.Crash.Keep)
		all = append(all, t)
	}
	return all
}

func plainList[T any](l []T) []T {
	if len(l) == 0 {
		return nil
	}
	return l
}

// told is what Parse tells.
type told struct {
	c  api.Config
	l  []api.Term
	e  api.Errno
	at int
}

func parse(text string) told {
	c, l, e, at := script.Parse(text)
	return told{c, l, e, at}
}

func refused(e api.Errno, at int) told {
	return told{e: e, at: at}
}

func wantParse(t *testing.T, text string, should told) {
	t.Helper()
	got := parse(text)
	got.c.Tenants, should.c.Tenants = plainList(got.c.Tenants), plainList(should.c.Tenants)
	got.l, should.l = plainTerms(got.l), plainTerms(should.l)
	want(t, fmt.Sprintf("Parse of %.200q", text), got, should)
}

// The chapter's words of lines, as patterns.
const (
	plainNumber  = `(0|-?[1-9][0-9]{0,17})`
	greatNumber  = `(0|[1-9][0-9]{0,19})`
	quotedText   = `"((?:[ !#-\[\]-~]|\\"|\\\\|\\x(?:[01][0-9a-f]|7f|[89a-f][0-9a-f]))*)"`
	plainNumbers = `((?: (?:0|-?[1-9][0-9]{0,17}))+)`
	greatNumbers = `((?: (?:0|[1-9][0-9]{0,19}))+)`
)

var patterns = func() map[string]*regexp.Regexp {
	l := map[string]*regexp.Regexp{}
	for letter, p := range map[string]string{
		"T": `tenant ` + quotedText + ` ` + quotedText + ` ` + plainNumber,
		"E": `engine` + strings.Repeat(` `+plainNumber, 7),
		"D": `disk ` + plainNumber,
		"t": `term ` + plainNumber + ` ` + plainNumber,
		"p": `picks` + plainNumbers,
		"i": `ticks` + plainNumbers,
		"d": `draws` + greatNumbers,
		"f": `fault` + strings.Repeat(` `+plainNumber, 3),
		"a": `at ` + plainNumber + ` ` + plainNumber + ` ` + quotedText,
		"c": `crash ` + plainNumber + `((?: (?:0|-?[1-9][0-9]{0,17}))*)`,
	} {
		l[letter] = regexp.MustCompile(`^(?s:` + p + `)$`)
	}
	return l
}()

// Beginnings of texts, and whole ones, by the letters of their lines.
var (
	begun = regexp.MustCompile(`^T*(E|ED(tp?i?d?f*a*c?)*)?$`)
	whole = regexp.MustCompile(`^T*ED(tp?i?d?f*a*c?)*$`)
)

// second is what Parse should tell, by patterns.
type second struct {
	told
	letters string
	wrong   bool // a great number is too great
}

func (s *second) term() *api.Term { return &s.l[len(s.l)-1] }

func num(s string) int {
	n, e := strconv.Atoi(s)
	if e != nil {
		panic(e)
	}
	return n
}

func nums(s string) []int {
	var l []int
	for _, x := range strings.Fields(s) {
		l = append(l, num(x))
	}
	return l
}

func (s *second) greats(x string) []uint64 {
	var l []uint64
	for _, x := range strings.Fields(x) {
		n, e := strconv.ParseUint(x, 10, 64)
		s.wrong = s.wrong || e != nil
		l = append(l, n)
	}
	return l
}

func bare(quoted string) string {
	x, e := strconv.Unquote(`"` + quoted + `"`) // Go's own has all that these have
	if e != nil {
		panic(e)
	}
	return x
}

// line takes a line of a letter; its parts are m.
func (s *second) line(letter string, m []string) {
	switch letter {
	case "T":
		s.c.Tenants = append(s.c.Tenants, api.Tenant{Name: bare(m[1]), Key: bare(m[2]), Quota: num(m[3])})
	case "E":
		s.c.Options = api.Options{Shape: api.Shape{Block: num(m[1]), Restart: num(m[2]), Bits: num(m[3])}, Mem: num(m[4]), Zero: num(m[5]), Base: num(m[6]), Fan: num(m[7])}
	case "D":
		s.c.Capacity = num(m[1])
	case "t":
		s.l = append(s.l, api.Term{Steps: num(m[1]), Stop: num(m[2])})
	case "p":
		s.term().Timing.Picks = nums(m[1])
	case "i":
		s.term().Timing.Ticks = nums(m[1])
	case "d":
		s.term().Timing.Draws = s.greats(m[1])
	case "f":
		s.term().Faults = append(s.term().Faults, api.Fault{Op: num(m[1]), Nth: num(m[2]), Kind: num(m[3])})
	case "a":
		s.term().Arrivals = append(s.term().Arrivals, api.Arrival{Step: num(m[1]), Conn: num(m[2]), Bytes: bare(m[3])})
	case "c":
		s.term().Crash = api.Crash{Dir: num(m[1]), Keep: nums(m[2])}
	}
}

// parseAgain is Parse, told a second time.
func parseAgain(text string) told {
	if len(text) > 1<<20 {
		return refused(api.ErrLong, 0)
	}
	lines := strings.SplitAfter(text, "\n")
	if lines[len(lines)-1] == "" {
		lines = lines[:len(lines)-1]
	}
	s := &second{}
	for n, line := range lines {
		letter, m := "?", []string(nil)
		for x, p := range patterns {
			if y := p.FindStringSubmatch(strings.TrimSuffix(line, "\n")); y != nil {
				letter, m = x, y
			}
		}
		s.letters += letter
		if !strings.HasSuffix(line, "\n") || line == "crash 0\n" || !begun.MatchString(s.letters) {
			return refused(api.ErrLine, n)
		}
		if s.line(letter, m); s.wrong {
			return refused(api.ErrLine, n)
		}
	}
	if !whole.MatchString(s.letters) {
		return refused(api.ErrLine, len(lines))
	}
	many := len(s.c.Tenants) > 16 || len(s.l) > 8
	for _, t := range s.l {
		many = many || len(t.Arrivals) > 256 || len(t.Faults) > 64 || len(t.Timing.Picks) > 65536 || len(t.Timing.Ticks) > 65536 || len(t.Timing.Draws) > 65536
	}
	if many {
		return refused(api.ErrLong, 0)
	}
	return s.told
}

// printAgain is Print of what may be printed, told a second time.
func printAgain(c api.Config, l []api.Term) string {
	var b strings.Builder
	all := func(word, format string, l any) {
		if s := strings.Trim(fmt.Sprintf(format, l), "[]"); s != "" {
			b.WriteString(word + " " + s + "\n")
		}
	}
	for _, t := range c.Tenants {
		fmt.Fprintf(&b, "tenant %s %s %d\n", quoted(t.Name), quoted(t.Key), t.Quota)
	}
	o := c.Options
	fmt.Fprintf(&b, "engine %d %d %d %d %d %d %d\ndisk %d\n", o.Shape.Block, o.Shape.Restart, o.Shape.Bits, o.Mem, o.Zero, o.Base, o.Fan, c.Capacity)
	for _, t := range l {
		fmt.Fprintf(&b, "term %d %d\n", t.Steps, t.Stop)
		all("picks", "%d", t.Timing.Picks)
		all("ticks", "%d", t.Timing.Ticks)
		all("draws", "%d", t.Timing.Draws)
		for _, x := range t.Faults {
			fmt.Fprintf(&b, "fault %d %d %d\n", x.Op, x.Nth, x.Kind)
		}
		for _, x := range t.Arrivals {
			fmt.Fprintf(&b, "at %d %d %s\n", x.Step, x.Conn, quoted(x.Bytes))
		}
		if t.Crash.Dir != 0 || len(t.Crash.Keep) > 0 {
			all("crash", "%d", append([]int{t.Crash.Dir}, t.Crash.Keep...))
		}
	}
	return b.String()
}

// quoted is the quoted text of bytes, told a second time.
func quoted(s string) string {
	var l []string
	for _, c := range []byte(s) {
		x := string(rune(c))
		if c < 32 || c > 126 {
			x = fmt.Sprintf(`\x%02x`, c)
		}
		if c == '"' || c == '\\' {
			x = `\` + x
		}
		l = append(l, x)
	}
	return `"` + strings.Join(l, "") + `"`
}

func pickOf[T any](r *rand.Rand, l ...T) T {
	return l[r.Intn(len(l))]
}

func someOf[T any](r *rand.Rand, most int, one func() T) []T {
	var l []T
	for range r.Intn(most + 1) {
		l = append(l, one())
	}
	return l
}

// edge is the greatest number of 18 digits.
const edge = 999999999999999999

func anyInt(r *rand.Rand) func() int {
	return func() int {
		return pickOf(r, 0, 0, 1, -1, 9, 10, 4096, -17, edge, -edge, r.Intn(1000), -r.Intn(1000))
	}
}

func anyText(r *rand.Rand) string {
	b := make([]byte, r.Intn(9))
	for i := range b {
		b[i] = pickOf(r, byte(r.Intn(256)), 'a', ' ', '"', '\\', 'x', '\n', '\r', 0, 0x1f, 0x20, 0x7e, 0x7f, 0xff)
	}
	return string(b)
}

// anything is a configuration and terms that may be printed.
func anything(r *rand.Rand) (api.Config, []api.Term) {
	n := anyInt(r)
	c := api.Config{Options: api.Options{Shape: api.Shape{Block: n(), Restart: n(), Bits: n()}, Mem: n(), Zero: n(), Base: n(), Fan: n()}, Capacity: n()}
	c.Tenants = someOf(r, 3, func() api.Tenant { return api.Tenant{Name: anyText(r), Key: anyText(r), Quota: n()} })
	l := someOf(r, 3, func() api.Term {
		return api.Term{
			Steps:    n(),
			Stop:     n(),
			Timing:   api.Timing{Picks: someOf(r, 4, n), Ticks: someOf(r, 4, n), Draws: someOf(r, 4, func() uint64 { return pickOf(r, 0, 1, 1<<63, 1<<64-1, r.Uint64()) })},
			Faults:   someOf(r, 2, func() api.Fault { return api.Fault{Op: n(), Nth: n(), Kind: n()} }),
			Arrivals: someOf(r, 3, func() api.Arrival { return api.Arrival{Step: n(), Conn: n(), Bytes: anyText(r)} }),
			Crash:    api.Crash{Dir: n(), Keep: someOf(r, 3, n)},
		}
	})
	return c, l
}
