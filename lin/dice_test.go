package lin_test

import (
	"fmt"
	"math/rand"
	"slices"
	"strings"

	"atrium/api"
	"atrium/server"
)

// dice makes plays.
type dice struct {
	r      *rand.Rand
	c      api.Config
	tokens [][]string // by tenants: those that they were told
	wild   bool       // bytes are turned
}

func newDice(seed int64) *dice {
	r := rand.New(rand.NewSource(seed))
	c := config([][]int{{3}, {2, 5}, {1, 30, 2}}[r.Intn(3)]...)
	c.Options.Mem = pickOf(r, 1, 300, 1000, 5000)
	c.Options.Zero = pickOf(r, 1, 2, 4)
	return &dice{r: r, c: c, tokens: make([][]string, len(c.Tenants))}
}

func (d *dice) token(tenant int) string {
	l := d.tokens[tenant]
	if len(l) == 0 || d.r.Intn(6) == 0 {
		return pickOf(d.r, "none", token(1, 7))
	}
	return l[max(len(l)-1-d.r.Intn(3), 0)]
}

// request is any request; most may be done.
func (d *dice) request() string {
	i := d.r.Intn(len(d.c.Tenants))
	who := d.c.Tenants[i]
	user := pickOf(d.r, "ada", "ada", "eve", "%C3%A9")
	var more []string
	if d.r.Intn(12) == 0 {
		more = append(more, pickOf(d.r, closing, "Cookie: sid="+d.token(i), "X-Y: "+strings.Repeat("z", d.r.Intn(100))))
	}
	switch d.r.Intn(22) {
	case 0, 1, 2:
		return ask(who, "GET", "/sessions/"+d.token(i), "", more...)
	case 3, 4, 5:
		return ask(who, "POST", "/sessions/"+d.token(i)+"/touch", fmt.Sprintf(`{"ttl":%d}`, pickOf(d.r, 1, 9, 50, 99, 0)), more...)
	case 6, 7:
		return ask(who, "DELETE", "/sessions/"+d.token(i), "", more...)
	case 8:
		return ask(who, "DELETE", "/users/"+user+"/sessions", "", more...)
	case 9:
		return ask(who, pickOf(d.r, "DELETE", "GET", "PUT"), "/sessions", "", more...)
	case 10:
		return ask(who, "GET", "/users/"+user+"/sessions", "", more...)
	case 11:
		return ask(who, "GET", fmt.Sprintf("/audit%s", pickOf(d.r, "", "?from=2", "?from=0", "?from=9", "?x")), "", more...)
	case 12:
		return stats(who)
	case 13:
		return ask(who, "GET", "/me", "", append(more, "Cookie: a=b; sid="+d.token(i))...)
	case 14:
		who.Key += "?"
		return ask(who, "GET", "/stats", "", more...)
	}
	return ask(who, "POST", "/sessions", fmt.Sprintf(`{"user":%q,"ttl":%d,"data":%q}`, pickOf(d.r, "ada", "ada", "eve", "é"), pickOf(d.r, 2, 9, 60, 200, 1<<31-1), strings.Repeat("x", d.r.Intn(90))), more...)
}

// spoil turns some bytes.
func (d *dice) spoil(s string) string {
	b := []byte(s)
	for range 1 + d.r.Intn(2) {
		i := d.r.Intn(len(b))
		switch d.r.Intn(3) {
		case 0:
			b[i] = byte(d.r.Intn(256))
		case 1:
			b = slices.Delete(b, i, i+1)
		default:
			b = slices.Insert(b, i, byte(d.r.Intn(256)), pickOf(d.r, byte('\r'), '\n', ' ', '%'))
		}
	}
	return string(b)
}

// stream is what comes on a connection between two steps, in pieces.
func (d *dice) stream(conn, from, to int) []api.Arrival {
	var b strings.Builder
	for range d.r.Intn(4) {
		s := d.request()
		if d.wild && d.r.Intn(3) == 0 {
			s = d.spoil(s)
		}
		b.WriteString(s)
	}
	var l []api.Arrival
	step := from + d.r.Intn(to-from)
	for _, s := range cutUp(d.r, b.String(), 3) {
		l = append(l, at(step, conn, s))
		step = min(step+d.r.Intn(4), to)
	}
	return l
}

// learn takes the tokens down that were told.
func (d *dice) learn(l []api.Term) {
	for _, s := range server.Play(d.c, l).Terms {
		for _, a := range s.Asked {
			if a.Status == 201 && !slices.Contains(d.tokens[a.Call.Tenant], a.Answer.Token) {
				d.tokens[a.Call.Tenant] = append(d.tokens[a.Call.Tenant], a.Answer.Token)
			}
		}
	}
}

// timing is how a term of so many steps goes.
func (d *dice) timing(steps int) api.Timing {
	conns := 1 + d.r.Intn(8)
	var x api.Timing
	for range steps - d.r.Intn(5) {
		x.Picks = append(x.Picks, pickOf(d.r, d.r.Intn(conns), d.r.Intn(conns), d.r.Intn(conns), d.r.Intn(tasks), laysDown+d.r.Intn(3))+11*d.r.Intn(2))
		x.Ticks = append(x.Ticks, pickOf(d.r, 0, 0, 0, 1, d.r.Intn(4)))
	}
	if d.r.Intn(2) == 0 {
		x.Draws = []uint64{d.r.Uint64(), 5}
	}
	return x
}

// terms is some terms; spoilTerm says what fails in each. What comes at one step comes in its order, steps in any.
func (d *dice) terms(n int, spoilTerm func(x *api.Term)) []api.Term {
	var l []api.Term
	for range n {
		x := api.Term{Steps: 40 + d.r.Intn(120), Stop: -1}
		x.Timing = d.timing(x.Steps)
		spoilTerm(&x)
		l = append(l, x)
		me := &l[len(l)-1]
		const parts = 2
		for i := range parts {
			from, to := x.Steps*i/parts, x.Steps*(i+1)/parts
			var come []api.Arrival
			for conn := range 8 {
				come = append(come, d.stream(conn, from, to)...)
			}
			if i%2 == 0 {
				me.Arrivals = append(come, me.Arrivals...)
			} else {
				me.Arrivals = append(me.Arrivals, come...)
			}
			d.learn(l)
		}
		me.Arrivals = me.Arrivals[:min(len(me.Arrivals), api.MaxArrivals)]
	}
	return l
}

// crash is what a crash keeps.
func (d *dice) crash() api.Crash {
	x := api.Crash{Dir: pickOf(d.r, 0, 0, d.r.Intn(6), 1<<20, -3)}
	for range d.r.Intn(6) {
		x.Keep = append(x.Keep, pickOf(d.r, 0, d.r.Intn(100), 1<<20, -2))
	}
	return x
}

// faults is some operations that fail.
func (d *dice) faults() []api.Fault {
	var l []api.Fault
	for range 1 + d.r.Intn(2) {
		l = append(l, api.Fault{Op: pickOf(d.r, api.OpAppend, api.OpSync, api.OpSync, api.OpCreate, api.OpRename, api.OpRemove, api.OpSyncDir, api.OpRead), Nth: 1 + d.r.Intn(20), Kind: 1 + d.r.Intn(2)})
	}
	return l
}
