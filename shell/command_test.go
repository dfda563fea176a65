package shell_test

import (
	"fmt"
	"strings"
	"testing"

	"atrium/api"
	"atrium/cred"
	"atrium/script"
	"atrium/server"
)

func TestNoText(t *testing.T) { // each command but !new and !lines tells why script.Parse refuses the text, and where
	for text, should := range map[string]string{
		"x\n":                                    "error 280 at 0",
		"\n":                                     "error 280 at 0",
		acme:                                     "error 280 at 1",
		acme + engine:                            "error 280 at 2",
		acme + engine + disk + "term 8\n":        "error 280 at 3",
		acme + engine + disk + "term 08 -1\n":    "error 280 at 3", // as it is not printed
		acme + engine + disk + "term 8 -1 \n":    "error 280 at 3",
		acme + engine + disk + "\n":              "error 280 at 3",
		example + "x\n":                          "error 280 at 5",
		example + example:                        "error 280 at 5",
		engine + acme + disk:                     "error 280 at 1",
		"tenant \"\\x61\" \"k\" 2\n":             "error 280 at 0",
		strings.Repeat(acme, 17) + engine + disk: "error 3 at 0",
		engine + disk + strings.Repeat("term 1 1\n", 9):                     "error 3 at 0",
		engine + disk + "term 1 1\n" + strings.Repeat("at 0 0 \"\"\n", 257): "error 3 at 0",
	} {
		s := told(t, text)
		for range 2 {
			for _, x := range asking {
				want(t, x+" of "+text, s.Line(x), should)
			}
			want(t, "!lines", s.Line("!lines"), fmt.Sprint(strings.Count(text, "\n")))
			want(t, "Text", s.Text(), text)
		}
		wantAll(t, text)
		want(t, "!new", s.Line("!new"), "0")
		want(t, "Text", s.Text(), "")
	}
	s, other := told(t, "x\n"), &second{}
	other.line("x")
	for range 2 { // the empty text
		wantLine(t, s, other, "!new")
		for _, x := range asking {
			want(t, x, s.Line(x), "error 280 at 0")
			wantLine(t, s, other, x)
		}
		wantLine(t, s, other, "!lines")
	}
}

func TestNoPlay(t *testing.T) { // !check and what plays tell that the play may not be
	for what, text := range map[string]string{
		"no tenants":      engine + disk,
		"a tenant":        "tenant \"A\" \"k\" 2\n" + engine + disk,
		"one twice":       acme + acme + engine + disk,
		"a quota":         "tenant \"a\" \"k\" -1\n" + engine + disk,
		"an engine":       acme + "engine 0 4 8 4096 2 4096 4\n" + disk,
		"a disk":          acme + engine + "disk -1\n",
		"a great disk":    acme + engine + "disk 16777217\n",
		"steps":           acme + engine + disk + "term -1 -1\n",
		"great steps":     acme + engine + disk + "term 4097 -1\n",
		"a step":          acme + engine + disk + "term 8 -1\nat -1 0 \"\"\n",
		"a connection":    acme + engine + disk + "term 8 -1\nat 0 8 \"\"\n",
		"a pick":          acme + engine + disk + "term 8 -1\npicks -1\n",
		"a tick":          acme + engine + disk + "term 8 -1\nticks -1\n",
		"a fault":         acme + engine + disk + "term 8 -1\nfault 0 1 1\n",
		"the second term": acme + engine + disk + "term 8 -1\nterm -1 -1\n",
	} {
		all := wantAll(t, text)
		want(t, what+": !print", all["!print"]+"\n", text)
		for _, x := range append([]string{"!check"}, playing...) {
			want(t, what+": "+x, all[x], "error 270")
		}
	}
}

func TestMint(t *testing.T) { // each tenant's name and credential, or why it has none
	credential := func(name, key string) string {
		s, e := cred.Mint(api.Tenant{Name: name, Key: key})
		want(t, "Mint", e, api.OK)
		return s
	}
	for _, x := range []struct{ tenants, should string }{
		{"", ""},
		{acme, `"acme" ` + credential("acme", "k")},
		{acme + "tenant \"b\" \"\\x00\\\"\" 0\n", `"acme" ` + credential("acme", "k") + "\n" + `"b" ` + credential("b", "\x00\"")},
		{"tenant \"b\" \"k\" 0\n" + acme + "tenant \"a\" \"k\" 1048576\n", `"b" ` + credential("b", "k") + "\n" + `"acme" ` + credential("acme", "k") + "\n" + `"a" ` + credential("a", "k")},
		{acme + acme, `"acme" ` + credential("acme", "k") + "\n" + `"acme" ` + credential("acme", "k")},
		{"tenant \"A\\x00\\\\\" \"k\" 0\n", `"A\x00\\" error 1`},
		{"tenant \"\" \"k\" 0\n" + acme + "tenant \"a\" \"\" 0\ntenant \"a\" \"k\" -1\n", `"" error 1` + "\n" + `"acme" ` + credential("acme", "k") + "\n" + `"a" error 1` + "\n" + `"a" error 1`},
	} {
		want(t, "!mint of "+x.tenants, wantAll(t, x.tenants+engine+disk)["!mint"], x.should)
		want(t, "!mint with an engine and a disk that may not be", wantAll(t, x.tenants+"engine 0 0 0 0 0 0 0\ndisk -1\n")["!mint"], x.should)
	}
}

func TestPrint(t *testing.T) { // it is the text without its last newline
	for _, text := range []string{example, engine + disk, acme + engine + disk + "term 1 -1\npicks 1 2\nticks 3\ndraws 18446744073709551615\nfault 1 2 1\nat 0 0 \"\\x00\\\"\\\\ \"\ncrash 0 5\nterm 0 0\n"} {
		want(t, "!print", wantAll(t, text)["!print"]+"\n", text)
	}
}

func TestNothingAsked(t *testing.T) { // no terms; terms with nothing asked; several
	all := wantAll(t, acme+"tenant \"b\" \"k\" 0\n"+engine+disk)
	for x, should := range map[string]string{"!check": "ok", "!play": "", "!sent": "", "!end": "\"acme\" 0 0\n\"b\" 0 0", "!explain": "explained", "!worlds": "1"} {
		want(t, "no terms: "+x, all[x], should)
	}
	all = wantAll(t, acme+engine+disk+"term 9 -1\nticks 1 2 3\nterm 0 -1\nterm 4 0\nterm 3 -1\nticks 0 0 5\n")
	for x, should := range map[string]string{
		"!check": "ok", "!sent": "", "!end": "\"acme\" 0 0", "!explain": "explained", "!worlds": "1",
		"!play": "term 0 open 0 steps 9 clock 6\nterm 1 open 0 steps 0 clock 6\nterm 2 open 5 steps 0 clock 6\nterm 3 open 0 steps 3 clock 11",
	} {
		want(t, "nothing asked: "+x, all[x], should)
	}
}

func TestNoEnd(t *testing.T) { // of what can't be read in the end its error alone is told
	met := map[int]int{}
	for capacity := 0; capacity < 1200; capacity += 13 {
		text := acme + engine + fmt.Sprintf("disk %d\nterm 4 -1\n", capacity) + ask(0, 0, whose, "POST", "/sessions", `{"user":"ada","ttl":9,"data":"x"}`) + "crash 9 9 9 9\n"
		all := wantAll(t, text)
		want(t, "!check", all["!check"], "ok")
		refused := 0
		for _, x := range playing {
			if all[x] == "error 2" {
				refused++
			}
		}
		if refused != 0 && refused != len(playing) {
			t.Errorf("disk %d: %v", capacity, all)
		}
		met[refused]++
	}
	if met[0] < 10 || met[len(playing)] < 10 {
		t.Errorf("refused: %v", met)
	}
}

// busy is two terms in which much is asked on three connections; data and users have bytes of all sorts.
func busy() string {
	other := api.Tenant{Name: "b", Key: "\"", Quota: 9}
	return acme + "tenant \"b\" \"\\\"\" 9\n" + engine + disk + "term 40 -1\npicks 0 1 0 1 0 1 0 1 0 1 0 1 0 1 0 1 2 2 2 2 2 7\nticks 5 0 0 0 0 0 0 0 0 0 2\n" +
		ask(0, 0, whose, "POST", "/sessions", `{"user":"é","ttl":90,"data":"\u0000\n\"\\é"}`) +
		ask(1, 1, other, "POST", "/sessions", `{"user":"ada","ttl":1,"data":""}`) +
		ask(3, 0, whose, "DELETE", "/users/%C3%A9/sessions", "") +
		ask(4, 0, whose, "POST", "/sessions", `{"user":"eve","ttl":90,"data":"~ "}`) +
		ask(4, 1, whose, "GET", "/%", "") + ask(4, 1, whose, "GET", "/stats", "") +
		arrive(9, 2, "x\x00\r\n\r\n") + arrive(9, 5, "GET") +
		"crash 9 99\nterm 22 -1\nticks 1\n" +
		ask(2, 0, whose, "DELETE", "/sessions", "") + ask(2, 0, other, "GET", "/stats", "")
}

func TestBusy(t *testing.T) { // what each tells, word by word
	all := wantAll(t, busy())
	want(t, "!check", all["!check"], "ok")
	want(t, "!explain", all["!explain"], "explained")
	want(t, "!worlds", all["!worlds"], "1")
	want(t, "!play", strings.Split(all["!play"], "\n"), []string{
		"term 0 open 0 steps 40 clock 7",
		"0 0 first 0 point 4 done 6 status 201 fate 1",
		"1 0 first 1 point 5 done 7 status 201 fate 1",
		"0 1 first 3 point 12 done 14 status 200 fate 1",
		"1 1 first 4 point 9 done 9 status 400 fate 1",
		"2 0 first 9 point 16 done 16 status 400 fate 1",
		"0 2 first 4 point 24 done 25 status 201 fate 1",
		"term 1 open 0 steps 22 clock 8",
		"0 0 first 2 point 4 done 5 status 200 fate 1",
		"0 1 first 2 point 7 done 8 status 200 fate 1",
	})
	end := strings.Split(all["!end"], "\n")
	for i, should := range []string{`"acme" 0 4`, `entry 1 1 5 "AAAAAAAAAA`, `entry 2 5 7 "\xc3\xa9"`, `entry 3 1 7 "AAAAAAAAAA`, `entry 4 6 8 ""`, `"b" 0 1`, `entry 1 1 5 "AAAAAAAAAA`} {
		want(t, "!end", end[min(i, len(end)-1)][:min(len(should), len(end[min(i, len(end)-1)]))], should)
	}
	want(t, "!end: how many lines", len(end), 7)
	sent := strings.Split(all["!sent"], "\n")
	want(t, "!sent: how many lines", len(sent), 4)
	for i, should := range []string{`0 0 "HTTP/1.1 201 Created\x0d\x0aContent-Type: `, `0 1 "HTTP/1.1 201 Created\x0d\x0aContent-Type: `, `0 2 "HTTP/1.1 400 Bad Request\x0d\x0a`, `1 0 "HTTP/1.1 200 OK\x0d\x0aContent-Type: `} {
		want(t, "!sent", strings.HasPrefix(sent[min(i, len(sent)-1)], should), true)
		want(t, "!sent: closed", strings.HasSuffix(sent[min(i, len(sent)-1)], `}" closed`), i == 1 || i == 2)
		want(t, "!sent: open", strings.HasSuffix(sent[min(i, len(sent)-1)], `}"`), i == 0 || i == 3)
	}
}

func TestSessionsAtTheEnd(t *testing.T) { // !end: sessions by their tokens, ahead of the entries
	text := acme + "tenant \"b\" \"k\" 1\n" + engine + disk + "term 12 -1\nticks 3\ndraws 0\n" +
		ask(0, 0, whose, "POST", "/sessions", `{"user":"é","ttl":90,"data":"\u0000\n\"\\é"}`) +
		ask(4, 0, whose, "POST", "/sessions", `{"user":"eve","ttl":2147483647,"data":"~ "}`)
	c, l, _, _ := script.Parse(text)
	one, two := cred.Token(1, server.Draw(l[0].Timing, 0, 0)), cred.Token(2, server.Draw(l[0].Timing, 0, 1))
	want(t, "tenants", len(c.Tenants), 2)
	want(t, "!end", strings.Split(wantAll(t, text)["!end"], "\n"), []string{
		`"acme" 2 2`,
		`session "` + one + `" "\xc3\xa9" "\x00\x0a\"\\\xc3\xa9" 93`,
		`session "` + two + `" "eve" "~ " 2147483650`,
		`entry 1 1 3 "` + one + `"`,
		`entry 2 1 3 "` + two + `"`,
		`"b" 0 0`,
	})
}

func TestUnsureWorlds(t *testing.T) { // !worlds: the power goes within commits
	met := map[string]int{}
	for stop := range 7 {
		for later := range 10 {
			for _, crash := range []string{"", "crash 9 999 999 999\n"} {
				request := ask(0, 0, whose, "POST", "/sessions", `{"user":"ada","ttl":9,"data":"x"}`)
				text := acme + engine + disk + fmt.Sprintf("term 9 %d\n%sterm 9 %d\n%s", 7+stop, request+crash, 5+later, request+crash)
				all := wantAll(t, text)
				want(t, "!explain", all["!explain"], "explained")
				met[all["!worlds"]]++
				all = wantAll(t, text+"term 9 -1\n"+ask(0, 0, whose, "GET", "/audit", ""))
				want(t, "!explain", all["!explain"], "explained")
				met[all["!worlds"]+" behind a look"]++
			}
		}
	}
	want(t, "more than one behind a look", met["2 behind a look"]+met["3 behind a look"], 0)
	for _, x := range []string{"1", "2", "3", "1 behind a look"} {
		if met[x] == 0 {
			t.Errorf("%s: %v", x, met)
		}
	}
}
