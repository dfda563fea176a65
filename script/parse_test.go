package script_test

import (
	"fmt"
	"math/rand"
	"strings"
	"testing"

	"atrium/api"
	"atrium/script"
)

// lineOf is a line of each letter.
var lineOf = map[byte]string{
	'T': `tenant "n" "k" 1`, 'E': `engine 1 2 3 4 5 6 7`, 'D': `disk 8`,
	't': `term 9 -1`, 'p': `picks 0 1`, 'i': `ticks 2`, 'd': `draws 3`, 'f': `fault 1 2 3`, 'a': `at 4 5 "x"`, 'c': `crash 6`,
}

func textOf(letters string) string {
	var b strings.Builder
	for i := range len(letters) {
		b.WriteString(lineOf[letters[i]] + "\n")
	}
	return b.String()
}

func TestParse(t *testing.T) { // P28.3, P28.5
	c, l := full()
	wantParse(t, fullText, told{c: c, l: l})
	wantParse(t, "engine 0 0 0 0 0 0 0\ndisk 9\n", told{c: api.Config{Capacity: 9}})
	wantParse(t, "tenant \"acme\" \"k\" 2\nengine 0 0 0 0 0 0 0\ndisk 9\nterm 9 -1\n", told{c: api.Config{Tenants: []api.Tenant{{Name: "acme", Key: "k", Quota: 2}}, Capacity: 9}, l: []api.Term{{Steps: 9, Stop: -1}}})
}

func TestParseWhere(t *testing.T) { // P28.3: each kind of line behind each other one: all texts of up to five lines
	const letters = "TEDtpidfac"
	var all func(s string, n int)
	tried := map[api.Errno]int{}
	all = func(s string, n int) {
		got, should := parse(textOf(s)), parseAgain(textOf(s))
		tried[got.e]++
		if got.e != should.e || got.at != should.at {
			t.Errorf("%s: %d at %d, not %d at %d", s, got.e, got.at, should.e, should.at)
		}
		if n > 0 {
			for i := range len(letters) {
				all(s+letters[i:i+1], n-1)
			}
		}
	}
	for _, s := range []string{"", "ED", "TEDt", "EDtpid", "EDtfa", "EDtc"} {
		all(s, 4)
	}
	if tried[api.OK] < 1000 || tried[api.ErrLine] < 1000 {
		t.Errorf("tried: %v", tried)
	}
}

func TestParseMissing(t *testing.T) { // P28.3: no `engine`, no `disk`, both missing, another order; lines are counted from 0 on
	for letters, at := range map[string]int{
		"": 0, "T": 1, "TTT": 3, "E": 1, "TE": 2, "TTE": 3, // too few: how many there are
		"D": 0, "TD": 1, "t": 0, "Tt": 1, "Et": 1, "TEt": 2, "ET": 1, "EDT": 2, "EE": 1, "EDE": 2, "EDD": 2, "DE": 0, "EDtD": 3, "EDtT": 3, "EDtE": 3,
		"EDp": 2, "EDi": 2, "EDd": 2, "EDf": 2, "EDa": 2, "EDc": 2,
		"EDtpp": 4, "EDtii": 4, "EDtdd": 4, "EDtcc": 4, "EDtip": 4, "EDtdi": 4, "EDtfd": 4, "EDtaf": 4, "EDtca": 4, "EDtfp": 4, "EDtap": 4, "EDtcf": 4,
	} {
		wantParse(t, textOf(letters), refused(api.ErrLine, at))
	}
	want(t, "twice in two terms", parse(textOf("EDtpidffaactpidfac")).e, api.OK)
}

func TestParseEnd(t *testing.T) { // P28.3: no last newline, empty lines, another line's end
	for i := range len(fullText) {
		should := refused(api.ErrLine, strings.Count(fullText[:i], "\n"))
		if s := fullText[:i]; strings.HasSuffix(s, "\n") {
			should = parseAgain(s)
		}
		wantParse(t, fullText[:i], should)
	}
	lines := strings.SplitAfter(strings.TrimSuffix(fullText, "\n"), "\n")
	for i := range len(lines) + 1 {
		ahead, behind := strings.Join(lines[:i], ""), strings.Join(lines[i:], "")
		if i == len(lines) {
			ahead, behind = fullText, ""
		}
		wantParse(t, ahead+"\n"+behind, refused(api.ErrLine, i))
		wantParse(t, ahead+" \n"+behind, refused(api.ErrLine, i))
		if i < len(lines) {
			wantParse(t, ahead+strings.Replace(behind, "\n", "\r\n", 1), refused(api.ErrLine, i))
		}
	}
}

// around is the lines that must stand ahead of one of a letter.
var around = map[byte]string{'T': "", 'E': "T", 'D': "TE", 't': "TED", 'p': "TEDt", 'i': "TEDt", 'd': "TEDt", 'f': "TEDt", 'a': "TEDt", 'c': "TEDt"}

// wantLine tries one line of a letter in its place, with enough behind it.
func wantLine(t *testing.T, letter byte, line string, is bool) {
	t.Helper()
	text := textOf(around[letter]) + line + "\n"
	if letter == 'T' {
		text += textOf("ED")
	}
	if letter == 'E' {
		text += textOf("D")
	}
	should := parseAgain(text)
	if got := should.e == api.OK; got != is {
		t.Errorf("%q: the second telling says %v", line, got)
	}
	wantParse(t, text, should)
	if !is {
		want(t, line, parse(text), refused(api.ErrLine, len(around[letter])))
	}
}

func TestParseWords(t *testing.T) { // P28.3: words parted by one blank, none at the begin and end, none too many, none too few
	for letter, line := range lineOf {
		wantLine(t, letter, line, true)
		words := strings.Split(line, " ")
		for i := range words {
			head, tail := strings.Join(words[:i], " "), strings.Join(words[i:], " ")
			wantLine(t, letter, head+"  "+tail, false)
			wantLine(t, letter, head+"\t"+tail, false)
			if i > 0 {
				wantLine(t, letter, head+tail, false)
			}
		}
		for _, wrong := range []string{" " + line, line + " ", strings.ToUpper(line), strings.ToUpper(line[:1]) + line[1:], words[0], words[0] + " ", words[0] + "s" + line[len(words[0]):], line + " x", line + " \"\"", line + "\x00", line + "\r", "\xef\xbb\xbf" + line} {
			wantLine(t, letter, wrong, false)
		}
	}
	for _, l := range []struct {
		letter byte
		line   string
		is     bool
	}{
		{'T', `tenant "a b" " " 1`, true}, {'T', `tenant "" "" 0`, true}, {'T', `tenant "\" " "\\" 0`, true}, {'T', `tenant "a" "k" 1 2`, false}, {'T', `tenant "a" 1`, false},
		{'T', `tenant "a" "k"`, false}, {'T', `tenant a "k" 1`, false}, {'T', `tenant "a" "k" "1"`, false}, {'T', `tenant "a""k" 1`, false}, {'T', `tenant "a"  "k" 1`, false},
		{'T', `tenant "a" "k 1`, false}, {'T', `tenant "a" "k\" 1`, false}, {'T', `tenant "a" "k"1`, false}, {'T', `tenant "\x41" "k" 1`, false}, {'T', `tenant "\x0A" "k" 1`, false},
		{'E', `engine 1 2 3 4 5 6`, false}, {'E', `engine 1 2 3 4 5 6 7 8`, false}, {'E', `engine -1 -2 -3 -4 -5 -6 -7`, true}, {'E', `engine`, false},
		{'D', `disk`, false}, {'D', `disk 1 2`, false}, {'D', `disk -1`, true}, {'D', `disk "1"`, false},
		{'t', `term 1`, false}, {'t', `term 1 2 3`, false}, {'t', `term`, false},
		{'p', `picks`, false}, {'p', `picks 0`, true}, {'p', `picks 1 -2 3 4`, true}, {'p', `picks 1  2`, false}, {'p', `picks "1"`, false},
		{'i', `ticks`, false}, {'i', `ticks 0`, true}, {'i', `ticks -1 5`, true},
		{'d', `draws`, false}, {'d', `draws 0`, true}, {'d', `draws -1`, false}, {'d', `draws 1 2 3`, true}, {'d', `draws 1 -2`, false},
		{'f', `fault 1 2`, false}, {'f', `fault 1 2 3 4`, false}, {'f', `fault -1 0 -3`, true},
		{'a', `at 1 2`, false}, {'a', `at 1 2 x`, false}, {'a', `at 1 2 "x" "y"`, false}, {'a', `at 1 "x"`, false}, {'a', `at 1 2 " x  y "`, true}, {'a', `at 1 2 "\"" `, false}, {'a', `at 1 2 "` + "\x01" + `"`, false},
		{'c', `crash`, false}, {'c', `crash 0`, false}, {'c', `crash 0 0`, true}, {'c', `crash 1`, true}, {'c', `crash -1`, true}, {'c', `crash 0 -1`, true}, {'c', `crash 1 2 3`, true}, {'c', `crash "0"`, false},
	} {
		wantLine(t, l.letter, l.line, l.is)
	}
	for _, line := range []string{"", "x", "0", `""`, `"tenant"`, "comment", "#", "terms 1 2", "pick 1", "end", "engine1 2 3 4 5 6 7", "\x00"} {
		wantParse(t, textOf("TED")+line+"\n", refused(api.ErrLine, 3))
	}
}

func TestParseNumbers(t *testing.T) { // P28.3: of how many digits, and how written; wherever one stands
	good := []string{"0", "1", "-1", "10", "-10", "9", "999999999999999999", "-999999999999999999", "100000000000000000"}
	wrong := []string{
		"", "-", "+1", "-0", "00", "01", "-01", "1000000000000000000", "-1000000000000000000", "9223372036854775807", "-9223372036854775808", "9223372036854775808",
		"99999999999999999999", "000000000000000000", "1.0", "1e3", "0x1", "1_0", " 1", "1 ", "--1", "1-", "a", "\u0661", "1\x00",
	}
	for letter, line := range lineOf {
		words := strings.Split(line, " ")
		for i := 1; i < len(words); i++ {
			if words[i][0] == '"' || letter == 'd' {
				continue
			}
			for is, l := range map[bool][]string{true: good, false: wrong} {
				for _, n := range l {
					x := append(append(append([]string(nil), words[:i]...), n), words[i+1:]...)
					if letter == 'c' && n == "0" {
						x = append(x, "0")
					}
					wantLine(t, letter, strings.Join(x, " "), is)
				}
			}
		}
	}
	for is, l := range map[bool][]string{
		true:  {"0", "1", "999999999999999999", "1000000000000000000", "9999999999999999999", "10000000000000000000", "18446744073709551615"},
		false: {"-1", "-0", "+1", "00", "01", "18446744073709551616", "99999999999999999999", "100000000000000000000", "00000000000000000001", "", "1.0", "0x1", "1_0", "a"},
	} {
		for _, n := range l {
			wantLine(t, 'd', "draws "+n, is)
			wantLine(t, 'd', "draws 7 "+n+" 8", is)
		}
	}
}

func TestParseFirst(t *testing.T) { // P28.3: of several lines that can not stand there the first one is told, ahead of what is missing, and of what is too many
	wantParse(t, textOf("T")+"x\n"+textOf("E")+"y\n", refused(api.ErrLine, 1))
	wantParse(t, textOf("T")+"x\n", refused(api.ErrLine, 1))
	wantParse(t, strings.Repeat(textOf("T"), 17), refused(api.ErrLine, 17))
	wantParse(t, strings.Repeat(textOf("T"), 17)+textOf("E"), refused(api.ErrLine, 18))
	wantParse(t, strings.Repeat(textOf("T"), 17)+textOf("ED"), refused(api.ErrLong, 0))
	wantParse(t, strings.Repeat(textOf("T"), 17)+textOf("ED")+"x", refused(api.ErrLine, 19))
}

func TestParseTurned(t *testing.T) { // P28.3: bytes turned, put in, left out, lines that change their places
	r := rand.New(rand.NewSource(28))
	told := map[api.Errno]int{}
	for range 30000 {
		c, l := anything(r)
		s := printAgain(c, l)
		i := r.Intn(len(s))
		one := pickOf(r, " ", "\n", "0", "1", "-", "\"", "\\", "x", "a", "\x00", "\xff", "term 1 2\n", "picks 1\n", "crash 1\n", string([]byte{byte(r.Intn(256))}))
		switch r.Intn(4) {
		case 0:
			s = s[:i] + one + s[i+1:]
		case 1:
			s = s[:i] + one + s[i:]
		case 2:
			s = s[:i] + s[i+1:]
		default:
			lines := strings.SplitAfter(s, "\n")
			j, k := r.Intn(len(lines)), r.Intn(len(lines))
			lines[j], lines[k] = lines[k], lines[j]
			s = strings.Join(lines, "")
		}
		should := parseAgain(s)
		told[should.e]++
		wantParse(t, s, should)
		if should.e == api.OK {
			again, e := script.Print(should.c, should.l)
			want(t, "Print of what Parse told", e, api.OK)
			want(t, "Print of what Parse told", again, s)
		}
	}
	if told[api.OK] < 1000 || told[api.ErrLine] < 1000 {
		t.Errorf("told: %v", told)
	}
}

func TestThereAndBack(t *testing.T) { // P28.5
	r := rand.New(rand.NewSource(285))
	for range 5000 {
		c, l := anything(r)
		s, e := script.Print(c, l)
		want(t, "Print", e, api.OK)
		want(t, "Print", s, printAgain(c, l))
		wantParse(t, s, told{c: c, l: l})
	}
}

func TestParseIsNew(t *testing.T) { // R3: what is told shares nothing
	a, b := parse(fullText), parse(fullText)
	for _, x := range []*told{&a} {
		x.c.Tenants[0].Name = "other"
		x.c.Tenants = append(x.c.Tenants[:1], api.Tenant{Name: "more"})
		x.l[0].Timing.Picks[0], x.l[0].Timing.Ticks[0], x.l[0].Timing.Draws[0] = 9, 9, 9
		x.l[0].Faults[0].Op, x.l[0].Arrivals[0].Step, x.l[0].Crash.Keep[0] = 9, 9, 9
	}
	c, l := full()
	want(t, "the other one", fmt.Sprint(b.c, b.l), fmt.Sprint(c, l))
}
