package shell_test

import (
	"fmt"
	"strings"
	"testing"

	"atrium/api"
	"atrium/shell"
)

// example is the chapter's.
const example = acme + engine + disk + "term 8 -1\nat 0 0 \"GET /nothing HTTP/1.1\\x0d\\x0aHost: a\\x0d\\x0a\\x0d\\x0a\"\n"

func TestExample(t *testing.T) { // the chapter's example
	s := told(t, example)
	want(t, "!check", s.Line("!check"), "ok")
	want(t, "!play", s.Line("!play"), "term 0 open 0 steps 8 clock 0\n0 0 first 0 point 0 done 0 status 401 fate 1")
	want(t, "!explain", s.Line("!explain"), "explained")
	want(t, "!lines", s.Line("!lines"), "5")
	wantAll(t, example)
}

func TestNewLine(t *testing.T) { // P30.1: error 1: nothing is laid down, nothing is done
	s, other := told(t, example), &second{strings.Split(strings.TrimSuffix(example, "\n"), "\n")}
	for _, line := range []string{"\n", "\na", "a\nb", "a\n", "\n\n", "!new\n", "\n!new", "!lines\n", "!\n", strings.Repeat("x", api.MaxScript) + "\n", "disk 5\n"} {
		want(t, fmt.Sprintf("%.20q", line), s.Line(line), "error 1")
		wantLine(t, s, other, line)
	}
	for _, line := range []string{"\r", "a\rb", "\x00", "\v", "\u2028", "\x85", " !new", "\t!new"} {
		want(t, fmt.Sprintf("%q", line), s.Line(line), "")
		other.line(line)
		wantLine(t, s, other, line)
	}
}

func TestLines(t *testing.T) { // P30.1: any line is put behind the text
	s, other := shell.New(), &second{}
	want(t, "Text of none", s.Text(), "")
	for _, line := range []string{"", "a", "", "", " b ", "\xff\x00", "new", "a!new", `"\x`, "disk 5"} {
		want(t, "a line", s.Line(line), "")
		other.line(line)
		want(t, "Text", s.Text(), other.text())
		wantLine(t, s, other, "!lines")
	}
	want(t, "Text", s.Text(), "\na\n\n\n b \n\xff\x00\nnew\na!new\n\"\\x\ndisk 5\n")
	want(t, "!new", s.Line("!new"), "0")
	want(t, "Text behind it", s.Text(), "")
	want(t, "!lines", s.Line("!lines"), "0")
	want(t, "!new again", s.Line("!new"), "0")
	want(t, "a line", s.Line("b"), "")
	want(t, "Text", s.Text(), "b\n")
}

func TestHowLong(t *testing.T) { // P30.1: error 3, if there would be more than 2^20 bytes
	most := strings.Repeat("x", api.MaxScript-1)
	s := shell.New()
	want(t, "one more", s.Line(most+"x"), "error 3")
	want(t, "Text", s.Text(), "")
	want(t, "far more", s.Line(strings.Repeat("x", 3*api.MaxScript)), "error 3")
	want(t, "the most", s.Line(most), "")
	for range 2 {
		want(t, "the empty line", s.Line(""), "error 3")
		want(t, "another line", s.Line("x"), "error 3")
		want(t, "Text", s.Text() == most+"\n", true)
		want(t, "!lines", s.Line("!lines"), "1")
		for _, x := range asking {
			want(t, x, s.Line(x), "error 280 at 0")
		}
		want(t, "none", s.Line("!"+most), "error 300")
		want(t, "with a newline", s.Line(most+"\n"), "error 1")
	}
	want(t, "!new", s.Line("!new"), "0")
	for i := range 1024 { // piece by piece
		want(t, fmt.Sprint("piece ", i), s.Line(strings.Repeat("y", 1023)), "")
	}
	want(t, "the empty line", s.Line(""), "error 3")
	want(t, "!lines", s.Line("!lines"), "1024")
	s.Line("!new")
	s.Line(most[:api.MaxScript-9])
	want(t, "one more than there is room", s.Line("12345678"), "error 3")
	want(t, "as much as there is room", s.Line("1234567"), "")
	want(t, "how much it is", len(s.Text()), api.MaxScript)
}

func TestManyLines(t *testing.T) { // P30.1: as many as there is room for, in a time that grows with them
	s := shell.New()
	for range api.MaxScript {
		if told := s.Line(""); told != "" {
			t.Fatal(told)
		}
	}
	want(t, "one more", s.Line(""), "error 3")
	want(t, "!lines", s.Line("!lines"), fmt.Sprint(api.MaxScript))
}

func TestNoCommand(t *testing.T) { // error 300: what begins with ! and is none
	s, other := told(t, example), &second{strings.Split(strings.TrimSuffix(example, "\n"), "\n")}
	lines := []string{"!", "!!", "! ", "!now", "! new", "!\x00", "!\xff", "!disk 5", "!checks", "!chec"}
	for i, x := range commands {
		lines = append(lines, x+" ", x+"\r", x+"\x00", strings.ToUpper(x), "!"+x, x+" "+commands[(i+1)%len(commands)], x+commands[0], x[:len(x)-1], "!"+strings.ToUpper(x[1:2])+x[2:], x+"s")
	}
	for _, x := range lines {
		want(t, x, s.Line(x), "error 300")
		wantLine(t, s, other, x)
	}
}

func TestNoShell(t *testing.T) { // P30.1: error 6, and no text, of one that New did not give
	whole := told(t, example)
	copied := *whole
	for what, s := range map[string]*shell.Shell{"nil": nil, "the zero value": {}, "a copy": &copied} {
		for _, line := range append([]string{"", "a", "!", "a\nb", strings.Repeat("x", api.MaxScript+1), "!new "}, commands...) {
			want(t, fmt.Sprintf("%s: %.20q", what, line), s.Line(line), "error 6")
			want(t, what+": Text", s.Text(), "")
		}
	}
	want(t, "the one that it is a copy of", whole.Text(), example)
	var zero shell.Shell
	zero.Line("a")
	want(t, "behind a line", zero.Text(), "")
}

func TestApart(t *testing.T) { // P30.1: shells have texts of their own
	a, b := shell.New(), shell.New()
	a.Line("a")
	b.Line("b")
	a.Line("c")
	text := a.Text()
	a.Line("d")
	want(t, "texts", []string{a.Text(), b.Text(), text}, []string{"a\nc\nd\n", "b\n", "a\nc\n"})
	a.Line("!new")
	a.Line("e")
	want(t, "texts", []string{a.Text(), b.Text(), text}, []string{"e\n", "b\n", "a\nc\n"})
}

func TestRun(t *testing.T) { // P30.2
	for _, x := range []struct{ what, text, should string }{
		{"nothing", "", ""},
		{"an empty line", "\n", ""},
		{"empty lines", "\n\n\n!lines\n", "3\n"},
		{"a line without a newline", "!lines", "0\n"},
		{"lines without a last newline", "a\nb\n!lines", "2\n"},
		{"lines that tell nothing", "a\nb\n", ""},
		{"commands between lines", "!lines\na\n!lines\n\n!lines\n!print\nb\n!lines\n", "0\n1\n2\nerror 280 at 0\n3\n"},
		{"!new in the middle", "a\n!lines\n!new\n!lines\n" + example + "!check\n!new\n!check\n", "1\n0\n0\nok\n0\nerror 280 at 0\n"},
		{"!new at the end", example + "!new", "0\n"},
		{"none", "!\n!x\n", "error 300\nerror 300\n"},
		{"what tells nothing", engine + disk + "!mint\n!print", engine + disk},
		{"no terms", acme + engine + disk + "!play\n!sent\n!end", "\"acme\" 0 0\n"},
		{"a blank behind it", "!lines \n!lines", "error 300\n0\n"},
		{"13 and 10", "!lines\r\n!lines", "error 300\n0\n"},
		{"the chapter's test", example + "!end\n!now\nx\n!check\n", "\"acme\" 0 0\nerror 300\nerror 280 at 5\n"},
	} {
		want(t, x.what, shell.Run(x.text), x.should)
		want(t, x.what+", again", shell.Run(x.text), x.should)
	}
	most := "!lines\n" + strings.Repeat("x", api.MaxScript-15) + "\n!lines\n"
	want(t, "how long it is", len(most), api.MaxScript)
	want(t, "the most", shell.Run(most), "0\n1\n")
	want(t, "one more", shell.Run(most+"\n"), "error 3")
	want(t, "one more without a newline", shell.Run(most+"x"), "error 3")
	want(t, "one more, a newline less", shell.Run(most[:len(most)-1]+"x"), "0\nerror 300\n")
	want(t, "only lines", shell.Run(strings.Repeat("\n", api.MaxScript)), "")
	want(t, "only lines, one more", shell.Run(strings.Repeat("\n", api.MaxScript+1)), "error 3")
}
