package cred_test

import (
	"math"
	"slices"
	"strings"
	"testing"

	"atrium/api"
	"atrium/cred"
)

func TestExample(t *testing.T) {
	want(t, "Token", cred.Token(0, 0), strings.Repeat("A", 22))
	for _, none := range [][]string{nil, {}} {
		i, e := cred.Who(many(1), none)
		want(t, "a place", i, 0)
		want(t, "no field", e, api.ErrCred)
	}
}

func TestHowMany(t *testing.T) { // P21.1
	for n := range 40 {
		l := many(n)
		if n < 1 || n > 16 {
			want(t, "Check", cred.Check(l), api.ErrArg)
			wantRefused(t, l, mint(t, many(n + 1)[0]), api.ErrArg)
			continue
		}
		want(t, "Check", cred.Check(l), api.OK)
		for i, x := range l {
			wantPlace(t, l, mint(t, x), i)
		}
	}
	want(t, "no list", cred.Check([]api.Tenant{}), api.ErrArg)
	want(t, "very many", cred.Check(many(1000)), api.ErrArg)
}

func TestTwice(t *testing.T) { // P21.1: two of one Name, at each two places
	for n := 2; n <= 16; n++ {
		for i := range n {
			for j := range i {
				l := many(n)
				l[i].Name = l[j].Name
				want(t, "Check", cred.Check(l), api.ErrArg)
				wantRefused(t, l, mint(t, l[i]), api.ErrArg)
				wantRefused(t, l, mint(t, l[j]), api.ErrArg)
			}
		}
	}
	l := many(16) // all else may be the same
	for i := range l {
		l[i].Key, l[i].Quota = "k", 7
	}
	want(t, "one Key", cred.Check(l), api.OK)
	for i, x := range l {
		wantPlace(t, l, mint(t, x), i)
	}
}

func TestNames(t *testing.T) { // P21.1: each byte, and each length
	for b := range 256 {
		c := one(b)
		for _, name := range []string{c, c + "a", "a" + c, "a" + c + "b", strings.Repeat("x", 31) + c, c + strings.Repeat("x", 31)} {
			wantTenant(t, api.Tenant{Name: name, Key: "k"}, strings.Contains(nameBytes, c))
		}
	}
	for n := range 80 {
		wantTenant(t, api.Tenant{Name: strings.Repeat("n", n), Key: "k"}, n >= 1 && n <= 32)
	}
	for _, name := range []string{"acme", "a", "0", "-", "--", "-a-", "007", nameBytes[:32], nameBytes[5:]} {
		wantTenant(t, api.Tenant{Name: name, Key: "k"}, true)
	}
	for _, name := range []string{"Acme", "ACME", "a.b", "a b", "a_b", " a", "a ", "a\n", "é", "ａ", "a/b", "tenant:a", "a\x00", strings.Repeat("a", 100000)} {
		wantTenant(t, api.Tenant{Name: name, Key: "k"}, false)
	}
}

func TestKeys(t *testing.T) { // P21.1: any bytes, 1 to 64
	for n := range 140 {
		wantTenant(t, api.Tenant{Name: "a", Key: strings.Repeat("k", n)}, n >= 1 && n <= 64)
		wantTenant(t, api.Tenant{Name: "a", Key: strings.Repeat("\x00", n)}, n >= 1 && n <= 64)
	}
	for b := range 256 {
		wantTenant(t, api.Tenant{Name: "a", Key: one(b)}, true)
		wantTenant(t, api.Tenant{Name: "a", Key: strings.Repeat("é", 31) + one(b) + "."}, true)
	}
	wantTenant(t, api.Tenant{Name: "a"}, false)
}

func TestQuotas(t *testing.T) { // P21.1
	for _, x := range []struct {
		quota int
		may   bool
	}{
		{math.MinInt, false}, {-1 << 32, false}, {-2, false}, {-1, false}, {0, true}, {1, true}, {2, true}, {1<<20 - 1, true}, {1 << 20, true}, {1<<20 + 1, false}, {1 << 21, false}, {1 << 31, false}, {1 << 32, false}, {math.MaxInt, false},
	} {
		wantTenant(t, api.Tenant{Name: "a", Key: "k", Quota: x.quota}, x.may)
	}
}

func TestOneWrong(t *testing.T) { // P21.1: one that may not be, at each place
	wrong := []api.Tenant{
		{}, {Name: "a"}, {Key: "k"}, {Name: "A", Key: "k"}, {Name: strings.Repeat("a", 33), Key: "k"}, {Name: "a", Key: strings.Repeat("k", 65)}, {Name: "a", Key: "k", Quota: -1}, {Name: "a", Key: "k", Quota: 1<<20 + 1},
	}
	for n := 1; n <= 16; n++ {
		for i := range n {
			for _, x := range wrong {
				l := many(n)
				own := mint(t, l[(i+1)%n])
				l[i] = x
				want(t, "Check", cred.Check(l), api.ErrArg)
				wantRefused(t, l, own, api.ErrArg) // also another one's own
				wantRefused(t, l, "", api.ErrArg)
			}
		}
	}
}

func TestMint(t *testing.T) { // P21.1: written out
	for _, x := range []struct{ name, key, sum string }{
		{"acme", "one", "3ee971400739d497966a6616c32e0f53685e764e92dac26affd6ce7d825dd036"},
		{"b", "two", "a5422786e68d4004b9ce8598b9180ad70c2379149f061d8059b7f3ef38537aa5"},
		{"a-1", "\x00", "1dd6bd05a74eb03a10dff2e19b2e70579499944415005a88059f5224af651885"},
	} {
		for _, quota := range []int{0, 1, 1 << 20} { // the Quota is no part of it
			want(t, x.name, mint(t, api.Tenant{Name: x.name, Key: x.key, Quota: quota}), x.name+"."+x.sum)
		}
	}
}

// three is tenants, one's Name being the beginning of another's.
func three() []api.Tenant {
	return []api.Tenant{{Name: "acme", Key: "one", Quota: 3}, {Name: "acme-2", Key: "two"}, {Name: "b", Key: "three", Quota: 1 << 20}}
}

func TestVerify(t *testing.T) { // P21.1, P21.4
	l := three()
	for i, x := range l {
		wantPlace(t, l, mint(t, x), i)
	}
	slices.Reverse(l)
	for i, x := range l {
		wantPlace(t, l, mint(t, x), i)
	}
}

func TestVerifyTurned(t *testing.T) { // P21.4: any other text is refused
	for _, x := range three() {
		turns(mint(t, x), func(s string) {
			if i, e := cred.Verify(three(), s); i != 0 || e != api.ErrCred {
				t.Errorf("Verify of %s: %d, %d", short(s), i, e)
			}
		})
	}
}

func TestVerifyWrong(t *testing.T) { // P21.1, P21.4
	l := three()
	own := mint(t, l[0])
	name, sum, _ := strings.Cut(own, ".")
	for _, s := range []string{
		"", ".", "..", "acme", "acme.", ".acme", "." + sum, sum, name + sum, name + ".." + sum, name + "." + sum + ".", name + "." + sum + "." + sum, name + "." + name + "." + sum, "." + own, own + " ", " " + own, own + "\n", own + "\x00",
		strings.ToUpper(own), strings.ToUpper(name) + "." + sum, name + "." + strings.ToUpper(sum), "Bearer " + own, own + own, own + "," + own,
		name + "," + sum, name + ":" + sum, name + " " + sum, name + "." + sum[:63], name + "." + sum[1:], name + "." + sum + "0", name + ".0" + sum, name + "." + strings.Repeat("0", 64), name + "." + strings.Repeat(" ", 64),
		"acme-2." + sum, "b." + sum, "acm." + sum, "acme-." + sum, "c." + sum, name + "." + mint(t, l[1])[7:], name + "." + mint(t, l[2])[2:], strings.Repeat(".", 100000), strings.Repeat("a", 100000), own + strings.Repeat("0", 100000),
	} {
		wantRefused(t, l, s, api.ErrCred)
	}
	wantRefused(t, l, mint(t, api.Tenant{Name: "c", Key: "one"}), api.ErrCred)      // one that is not in the list
	wantRefused(t, l, mint(t, api.Tenant{Name: "acme-3", Key: "two"}), api.ErrCred) // likewise
	wantRefused(t, l[1:], own, api.ErrCred)                                         // not any more
	for i, x := range l {
		for j, y := range l {
			made := mint(t, api.Tenant{Name: x.Name, Key: y.Key})
			if i == j {
				wantPlace(t, l, made, i)
			} else {
				wantRefused(t, l, made, api.ErrCred) // with another one's Key
			}
		}
		wantRefused(t, l, mint(t, api.Tenant{Name: x.Name, Key: x.Key + "x"}), api.ErrCred)
		wantPlace(t, l, mint(t, api.Tenant{Name: x.Name, Key: x.Key + "\x00"}), i) // HMAC fills keys up so: it is the same text
	}
}

func TestPurpose(t *testing.T) { // P21.1: what is proved is the Name behind its purpose
	l := []api.Tenant{{Name: "a", Key: "k"}, {Name: "tenant-a", Key: "k"}, {Name: "ten", Key: "k"}}
	for i, x := range l {
		wantPlace(t, l, mint(t, x), i)
		for _, y := range l {
			if x != y {
				wantRefused(t, l, x.Name+"."+mint(t, y)[len(y.Name)+1:], api.ErrCred)
			}
		}
	}
}

// mixes tells a word in each mix of letters.
func mixes(word string, tell func(string)) {
	for n := range 1 << len(word) {
		b := []byte(word)
		for i := range b {
			if n>>i&1 == 1 {
				b[i] -= 'a' - 'A'
			}
		}
		tell(string(b))
	}
}

func TestBearer(t *testing.T) { // P21.2
	own := mint(t, many(3)[2])
	count := 0
	mixes("bearer", func(word string) {
		count++
		for _, s := range []string{"x", own, "a b", " ", "  ", "\t", "\x00", "\xFF", "é", "Bearer x", "BEARER x", strings.Repeat("x", 10000)} {
			wantBearer(t, word+" "+s, s)
		}
		i, e := cred.Who(many(3), []string{word + " " + own})
		want(t, word, i, 2)
		want(t, word, e, api.OK)
		for _, value := range []string{word, word + " ", word + own, word + "\t" + own, word + "\n" + own, word + "\u00A0" + own, word + "," + own, word + ":" + own, word + ": " + own, word + "\t " + own, word + "s " + own, " " + word + " " + own, "\t" + word + " " + own, word[1:] + " " + own, word[:5] + " " + own, word + word + " " + own, `"` + word + `" ` + own} {
			wantNoBearer(t, value)
		}
	})
	want(t, "mixes", count, 64)
}

func TestBearerBlanks(t *testing.T) { // P21.2: behind the blank stands whatever stands there
	own := mint(t, many(3)[1])
	wantBearer(t, "Bearer  "+own, " "+own) // two: the second one belongs to what stands behind the first
	wantBearer(t, "Bearer "+own+" ", own+" ")
	wantBearer(t, "Bearer \t"+own, "\t"+own)
	for _, value := range []string{"Bearer  " + own, "Bearer " + own + " ", "Bearer \t" + own} { // these are nobody's
		i, e := cred.Who(many(3), []string{value})
		want(t, value, i, 0)
		want(t, value, e, api.ErrCred)
	}
}

func TestBearerWrong(t *testing.T) { // P21.2
	for _, value := range []string{"", " ", "  ", "b", "bearer", "bearer ", "BEARER ", "bearer\t", "bearerx", "bearer\x00x", "basic x", "Basic " + mint(t, many(1)[0]), "beare x", "bearers x", "bearer. x", "earer x", "bearar x", "beaver x", "token x", mint(t, many(1)[0]), "ｂearer x", "béarer x", "bea rer x", "bearer=x", "b\x05arer x", "bearer\u3000x", "bearer@x", "bearer\x00"} {
		wantNoBearer(t, value)
	}
	for b := range 256 { // each byte at each place of the word, and of the blank
		for i := range len("bearer ") {
			value := "bearer "[:i] + one(b) + "bearer "[i+1:] + "x"
			if strings.ToLower(one(b)) == "bearer "[i:i+1] {
				wantBearer(t, value, "x")
			} else {
				wantNoBearer(t, value)
			}
		}
	}
}

func TestWho(t *testing.T) { // P21.2
	l := three()
	own, other := "Bearer "+mint(t, l[0]), "Bearer "+mint(t, l[1])
	for _, values := range [][]string{nil, {}, {own, own}, {own, other}, {other, own}, {own, ""}, {"", own}, {own, own, own}, {"", ""}, {"x"}, {""}, {mint(t, l[0])}, {own + "0"}, {own + ", " + own}, {own + "," + other}} {
		i, e := cred.Who(l, values)
		want(t, strings.Join(values, "|"), i, 0)
		want(t, strings.Join(values, "|"), e, api.ErrCred)
		for _, wrong := range [][]api.Tenant{nil, {{}}, many(17), {l[0], l[0]}} { // whatever the values
			i, e := cred.Who(wrong, values)
			want(t, "a wrong list", i, 0)
			want(t, "a wrong list", e, api.ErrArg)
		}
	}
	for i, x := range l {
		got, e := cred.Who(l, []string{"bEARER " + mint(t, x)})
		want(t, x.Name, got, i)
		want(t, x.Name, e, api.OK)
	}
}

func TestHandedIn(t *testing.T) { // R3: lists and the room behind them stay as they are
	room := append(three(), api.Tenant{Name: "room", Key: "k"})
	values := []string{"Bearer " + mint(t, room[1]), "room"}
	l, given := room[:3], values[:1]
	cred.Check(l)
	cred.Verify(l, "acme.x")
	i, e := cred.Who(l, given)
	want(t, "Who", i, 1)
	want(t, "Who", e, api.OK)
	want(t, "tenants", slices.Equal(room, append(three(), api.Tenant{Name: "room", Key: "k"})), true)
	want(t, "values", slices.Equal(values, []string{"Bearer " + mint(t, three()[1]), "room"}), true)
	wantRefused(t, l, mint(t, room[3]), api.ErrCred) // what lies behind is no tenant
}
