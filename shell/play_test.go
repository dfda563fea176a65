package shell_test

import (
	"strings"
	"sync"
	"testing"

	"atrium/shell"
)

func TestTexts(t *testing.T) { // P30.1, P30.3: what is told of many texts; asked again it is the same
	met := map[string]int{}
	for seed := range int64(250) {
		d := newDice(seed)
		text := d.text()
		if d.r.Intn(6) == 0 {
			text = strings.TrimSuffix(d.spoil(text), "\n") + "\n"
			if strings.HasPrefix(text, "!") || strings.Contains(text, "\n!") {
				continue
			}
		}
		all := wantAll(t, text)
		if all["!check"] == "ok" && !strings.HasPrefix(all["!play"], "error") {
			want(t, "!explain of "+text, all["!explain"], "explained")
			met["explained"]++
		}
		met[all["!worlds"]]++
		for _, s := range []string{"error 280", "error 270", "error 2"} {
			if strings.HasPrefix(all["!play"], s) {
				met[s]++
			}
		}
		if !strings.HasPrefix(all["!print"], "error") {
			want(t, "!print in a new shell", told(t, all["!print"]+"\n").Line("!print"), all["!print"])
			met["printed"]++
		}
	}
	for name, least := range map[string]int{"explained": 120, "1": 90, "2": 2, "error 280": 15, "error 270": 10, "error 2": 10, "printed": 150} {
		if met[name] < least {
			t.Errorf("%s: %v", name, met)
		}
	}
}

func TestAnyLines(t *testing.T) { // P30.1 to P30.3: any lines and commands: Run tells what they tell one by one; what goes on behind a text begins with what is told of it
	for seed := range int64(60) {
		d := newDice(1000 + seed)
		text := d.text()
		for range 3 {
			text += d.text()
		}
		s, other := shell.New(), &second{}
		whole, should, before := "", "", ""
		lines := strings.Split(strings.TrimSuffix(d.text(), "\n"), "\n")
		for range 30 {
			lines = append(lines, d.line(text))
		}
		for i, line := range lines {
			if len(whole)+len(line) >= 1<<20 {
				continue // a text has no room for it
			}
			got := s.Line(line)
			want(t, "a line", got, other.line(line))
			want(t, "Text", s.Text() == other.text(), true)
			if strings.Contains(line, "\n") {
				continue // it is no line of a text
			}
			whole += line + "\n"
			if got != "" {
				should += got + "\n"
			}
			if i%7 == 0 {
				now := shell.Run(whole)
				want(t, "Run", now, should)
				want(t, "it begins with what was told", strings.HasPrefix(now, before), true)
				before = now
			}
		}
		want(t, "Run", shell.Run(whole), should)
		want(t, "Run without the last newline", shell.Run(strings.TrimSuffix(whole, "\n")), should)
	}
}

func TestLeaves(t *testing.T) { // P30.3: a command changes the text just if it is !new
	for _, text := range []string{"x\n", example, busy(), engine + disk} {
		for _, x := range commands {
			for _, y := range commands {
				s := told(t, text)
				first := s.Line(x)
				want(t, x+", again", s.Line(x) == first, x != "!new" || first == "0")
				if x == "!new" {
					want(t, "Text behind !new", s.Text(), "")
					continue
				}
				want(t, "Text behind "+x, s.Text(), text)
				fresh := told(t, text)
				want(t, y+" behind "+x, s.Line(y), fresh.Line(y))
			}
		}
	}
}

func TestAtOnce(t *testing.T) { // R4: it hangs on its own lines alone
	text := busy() + strings.Join(commands[1:], "\n")
	should := shell.Run(text)
	var told [8]string
	var group sync.WaitGroup
	for i := range told {
		group.Go(func() { told[i] = shell.Run(text) })
	}
	group.Wait()
	for _, s := range told {
		want(t, "at once", s, should)
	}
}
