package model_test

import (
	"fmt"
	"math"
	"math/rand"
	"strings"
	"testing"

	"atrium/api"
	"atrium/model"
)

// anyOne is one of some.
func anyOne[T any](r *rand.Rand, l ...T) T {
	return l[r.Intn(len(l))]
}

// anyToken is one that somebody has or had, or none.
func (p *play) anyToken(r *rand.Rand) string {
	var l []string
	for _, s := range p.s {
		for _, e := range s.entries {
			l = append(l, e.Subject)
		}
	}
	if len(l) > 12 { // the younger ones live rather
		l = l[len(l)-12:]
	}
	return anyOne(r, append(l, "", token(1, 0), "none")...)
}

// anyCall is a call that may be, or not.
func (p *play) anyCall(r *rand.Rand) api.Call {
	c := api.Call{
		Kind:   1 + r.Intn(9),
		Tenant: r.Intn(len(p.s)),
		Token:  p.anyToken(r),
		User:   anyOne(r, "ada", "ada", "bob", "é", "", "\xFF", "eve"),
		Data:   anyOne(r, "", "d", "é", strings.Repeat("d", 511+r.Intn(3)), "\xC3"),
		TTL:    anyOne(r, 1, 2, 3, 5, 9, 20, 0, -1, 1<<31-1, 1<<31),
		From:   anyOne(r, 1, 1+r.Intn(40), 0, -1, math.MaxInt),
		Draw:   anyOne(r, 0, 1, r.Uint64()),
	}
	switch r.Intn(30) {
	case 0:
		c.Kind = anyOne(r, 0, -1, 10, math.MaxInt)
	case 1:
		c.Tenant = anyOne(r, -1, len(p.s), math.MinInt)
	case 2, 3, 4, 5, 6, 7, 8: // so that there is something
		c.Kind, c.User, c.Data, c.TTL = api.CallCreate, "ada", "", 1+r.Intn(30)
	}
	return c
}

func TestPlays(t *testing.T) { // P23.1 to P23.5: any calls, at ticks that rise and fall
	r := rand.New(rand.NewSource(230))
	told := map[string]int{}
	for range 60 {
		p := fresh(t, r.Intn(3), 1+r.Intn(5), 1+r.Intn(30))
		now := anyOne(r, 0, 10, 1000, uint64(math.MaxInt64-50), math.MaxUint64-50)
		back := r.Intn(2) == 0
		for range 150 {
			c := p.anyCall(r)
			var ahead []string
			for i := range p.s {
				ahead = append(ahead, standingOf(p.w, i))
			}
			entries := 0
			if c.Tenant >= 0 && c.Tenant < len(p.s) {
				entries = len(p.w.Entries(c.Tenant))
			}
			a := p.do(c, now)
			told[fmt.Sprint(c.Kind, " ", a.Status)]++
			mutates := model.Mutates(c, a)
			for i := range p.s {
				if i != c.Tenant || !mutates {
					want(t, "what is not touched", standingOf(p.w, i), ahead[i])
				}
			}
			if mutates {
				want(t, "one entry more", len(p.w.Entries(c.Tenant)), entries+1)
			}
			p.check(now, now+1, now+5, now-1)
			if now += uint64(r.Intn(3)); back && r.Intn(5) == 0 {
				now -= uint64(r.Intn(10))
			}
		}
	}
	for _, word := range []string{"1 201", "1 400", "1 429", "2 200", "2 404", "3 200", "3 400", "3 404", "4 204", "4 404", "5 200", "5 400", "6 200", "7 200", "7 400", "8 200", "8 400", "9 200", "0 400"} {
		if told[word] < 10 {
			t.Errorf("%s was told %d times: %v", word, told[word], told)
		}
	}
}

func TestQuotaPlays(t *testing.T) { // P23.6, P23.7: where ticks do not fall
	r := rand.New(rand.NewSource(231))
	most := 0
	for range 60 {
		quota := r.Intn(6)
		p := fresh(t, quota, 3)
		now := uint64(r.Intn(100))
		gone := map[string]int{} // tokens that do not live any more
		for range 120 {
			alive := texts(p.w.Live(0, now))
			c := p.anyCall(r)
			c.Tenant = r.Intn(2)
			p.do(c, now)
			now += uint64(r.Intn(3))
			is := map[string]int{}
			for later := now; later < now+40; later += 1 + uint64(r.Intn(5)) {
				l := texts(p.w.Live(0, later))
				most = max(most, len(l))
				if len(l) > quota {
					t.Errorf("%d live at %d, the quota is %d", len(l), later, quota)
				}
				for _, k := range l {
					is[k]++
					if gone[k] > 0 {
						t.Errorf("%s lives again at %d", k, later)
					}
				}
			}
			for _, k := range alive {
				if is[k] == 0 {
					gone[k]++
				}
			}
		}
		if p.w.Next(0) > 1 && len(gone) == 0 {
			t.Error("nothing has ended")
		}
	}
	want(t, "as many as may", most, 5)
}

func TestAgain(t *testing.T) { // R4: the same calls are told the same
	play := func() string {
		r := rand.New(rand.NewSource(232))
		p := fresh(t, 40, 40)
		var b strings.Builder
		for i := range 400 {
			b.WriteString(fmt.Sprintf("%+v\n", p.do(p.anyCall(r), uint64(i/4))))
		}
		return b.String() + standing(p.w, 2)
	}
	first := play()
	for range 5 {
		want(t, "again", play(), first)
	}
}
