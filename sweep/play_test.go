package sweep_test

import (
	"fmt"
	"math/rand"
	"slices"
	"strings"
	"testing"

	"atrium/api"
	"atrium/lsm"
	"atrium/model"
	"atrium/record"
	"atrium/svc"
	"atrium/sweep"
)

// heap is records that need not agree, told a second time: by tenants, of each those by expiry, and the sessions.
type heap struct {
	expiries map[string][]api.Session // Expires and Token alone
	sessions map[string]map[string]api.Session
}

// add puts a session's records there, or some of them.
func (h *heap) add(t *testing.T, d *lsm.DB, tenant string, s api.Session, parts int) {
	t.Helper()
	l := recordsOf(tenant, s)
	if parts&1 != 0 {
		short := api.Session{Token: s.Token, Expires: s.Expires}
		if !slices.Contains(h.expiries[tenant], short) {
			h.expiries[tenant] = append(h.expiries[tenant], short)
		}
		write(t, d, l[0])
	}
	if parts&2 != 0 {
		h.sessions[tenant][s.Token] = s
		write(t, d, l[1])
	}
}

// first is the place of the next one of a tenant at a tick; -1, if there is none.
func (h *heap) first(tenant string, now uint64) int {
	at := -1
	for i, x := range h.expiries[tenant] {
		y := x
		if at >= 0 {
			y = h.expiries[tenant][at]
		}
		if x.Expires <= now && (at < 0 || x.Expires < y.Expires || x.Expires == y.Expires && x.Token < y.Token) {
			at = i
		}
	}
	return at
}

// left is how many of a tenant can be swept.
func (h *heap) left(tenant string, now uint64) int {
	n := 0
	for _, x := range h.expiries[tenant] {
		if x.Expires <= now {
			n++
		}
	}
	return n
}

// step is a step: the place that is swept, and whether there is one.
func (h *heap) step(tenants []string, now uint64) (api.Place, bool) {
	for _, tenant := range tenants {
		i := h.first(tenant, now)
		if i < 0 {
			continue
		}
		x := h.expiries[tenant][i]
		h.expiries[tenant] = slices.Delete(h.expiries[tenant], i, i+1)
		if h.sessions[tenant][x.Token].Expires == x.Expires {
			delete(h.sessions[tenant], x.Token)
		}
		return expiryOf(tenant, x), true
	}
	return api.Place{}, false
}

// pairs is what should lie there; but for records by user.
func (h *heap) pairs() []string {
	var l []string
	for tenant, xs := range h.expiries {
		for _, x := range xs {
			l = append(l, expiryKey(tenant, x.Expires, x.Token)+"=")
		}
	}
	for tenant, xs := range h.sessions {
		for _, x := range xs {
			l = append(l, sessionKey(tenant, x.Token)+"="+sessionValue(x))
		}
	}
	slices.Sort(l)
	return l
}

func TestHeaps(t *testing.T) { // P26.1 to P26.3: whatever lies there
	for seed := range int64(30) {
		r := rand.New(rand.NewSource(260 + seed))
		names := []string{"b", "a", "a-"}
		d := fresh(t)
		h := &heap{map[string][]api.Session{}, map[string]map[string]api.Session{"a": {}, "b": {}, "a-": {}}}
		for range 60 {
			tenants := []string{names[r.Intn(3)], names[r.Intn(3)], "none", "No", names[r.Intn(3)]}
			now := uint64(1 + r.Intn(30))
			switch r.Intn(3) {
			case 0:
				h.add(t, d, names[r.Intn(3)], some(r.Intn(12), uint64(1+r.Intn(30))), 1+r.Intn(3))
			case 1:
				left := 0
				for i, tenant := range tenants {
					if !slices.Contains(tenants[:i], tenant) {
						left += h.left(tenant, now)
					}
				}
				want(t, "Left", sweep.Left(d, tenants, now), left)
			default:
				ahead := d.Info()
				p, is := sweep.Find(d, tenants, now)
				want(t, "the engine behind Find", d.Info(), ahead)
				should, any := h.step(tenants, now)
				want(t, "Find", p, should)
				want(t, "Find", is, any)
				wantStep(t, d, tenants, now, any, api.OK)
			}
			var got []string
			for _, p := range all(d) {
				got = append(got, p.Key+"="+p.Value)
			}
			want(t, "what lies there", got, h.pairs())
		}
	}
}

// platform is what svc makes, and the model.
type platform struct {
	t *testing.T
	d *lsm.DB
	l []api.Tenant
	w *model.World
}

func newPlatform(t *testing.T) *platform {
	t.Helper()
	l := []api.Tenant{{Name: "b", Key: "k", Quota: 20}, {Name: "a", Key: "k", Quota: 50}}
	w, e := model.New(l)
	if e != api.OK {
		t.Fatal("New", e)
	}
	return &platform{t, fresh(t), l, w}
}

func (p *platform) do(c api.Call, now uint64) api.Answer {
	p.t.Helper()
	a, e := svc.Do(p.d, p.l, c, now)
	want(p.t, "Do", e, api.OK)
	if should := p.w.Do(c, now); !model.Same(a, should) {
		p.t.Errorf("%+v at %d: %+v, not %+v", c, now, a, should)
	}
	return a
}

// some does so many creates and touches.
func (p *platform) some(r *rand.Rand, n int, now uint64) {
	p.t.Helper()
	var tokens []string
	for i := range n {
		c := api.Call{Kind: api.CallCreate, Tenant: i % 2, User: "ada", TTL: 1 + r.Intn(9), Draw: uint64(i)}
		if a := p.do(c, now); a.Status == 201 {
			tokens = append(tokens, a.Token)
		}
		if r.Intn(3) == 0 && len(tokens) > 0 {
			p.do(api.Call{Kind: api.CallTouch, Tenant: i % 2, Token: tokens[r.Intn(len(tokens))], TTL: 1 + r.Intn(9)}, now)
		}
	}
}

// ask is what all calls that change nothing are told at a tick and later, and the records that no sweep touches.
func (p *platform) ask(now uint64) string {
	p.t.Helper()
	var b strings.Builder
	for at := now; at < now+12; at++ {
		for i, tenant := range p.l {
			for _, c := range []api.Call{{Kind: api.CallList, User: "ada"}, {Kind: api.CallStats}, {Kind: api.CallAudit, From: 1}, {Kind: api.CallAudit, From: 9}} {
				c.Tenant = i
				b.WriteString(fmt.Sprintf("%+v\n", p.do(c, at)))
			}
			s, e := svc.Live(p.d, tenant.Name, at)
			want(p.t, "Live", e, api.OK)
			b.WriteString(fmt.Sprintf("%+v\n", s))
		}
	}
	for _, x := range all(p.d) {
		if at, _ := record.Where(x.Key); at.Kind == api.PlaceLedger || at.Kind == api.PlaceAudit {
			b.WriteString(fmt.Sprintf("%q %q\n", x.Key, x.Value))
		}
	}
	return b.String()
}

func TestNobodySees(t *testing.T) { // P26.4, P26.5: swept at a tick, and at later ones
	swept := 0
	for seed := range int64(10) {
		r := rand.New(rand.NewSource(seed))
		p := newPlatform(t)
		names := []string{"a", "b"}
		for now := uint64(1); now < 40; now += 1 + uint64(r.Intn(6)) {
			p.some(r, 6, now)
			ahead := p.ask(now)
			left := sweep.Left(p.d, names, now)
			for i := range left {
				wantStep(t, p.d, names, now, true, api.OK)
				want(t, "Left", sweep.Left(p.d, names, now), left-i-1)
				want(t, "Agree", record.Agree(all(p.d)), api.OK)
			}
			wantNone(t, p.d, names, now)
			want(t, "what is told", p.ask(now), ahead)
			for _, x := range all(p.d) {
				if at, _ := record.Where(x.Key); at.Kind == api.PlaceExpiry && at.Expires <= now {
					t.Errorf("%+v is left at %d", at, now)
				}
			}
			swept += left
		}
	}
	if swept < 200 {
		t.Errorf("%d were swept", swept)
	}
}

func TestRunAsLeft(t *testing.T) { // P26.5: Run with most as Left tells leaves nothing
	for seed := range int64(10) {
		r := rand.New(rand.NewSource(77 + seed))
		p := newPlatform(t)
		for now := uint64(1); now < 20; now += 4 {
			p.some(r, 8, now)
			names := []string{"b", "none", "a", "b"}
			left := sweep.Left(p.d, names, now)
			wantRun(t, p.d, names, now, left, left, api.OK)
			wantNone(t, p.d, names, now)
			want(t, "Agree", record.Agree(all(p.d)), api.OK)
			p.d.Freeze()
			p.d.Flush()
			p.d.Compact()
			wantNone(t, p.d, names, now)
		}
		n := sweep.Left(p.d, []string{"a", "b"}, 1<<40)
		wantRun(t, p.d, []string{"a", "b"}, 1<<40, n, n, api.OK)
		for _, x := range all(p.d) {
			if at, _ := record.Where(x.Key); at.Kind != api.PlaceLedger && at.Kind != api.PlaceAudit {
				t.Errorf("%+v is left", at)
			}
		}
	}
}
