package audit_test

import (
	"math/rand"
	"slices"
	"strings"
	"testing"

	"atrium/api"
	"atrium/audit"
	"atrium/mac"
	"atrium/model"
	"atrium/txn"
)

func TestSerial(t *testing.T) { // P24.5: of two that append to one list one commits
	d := fresh(t)
	for n := range 5 {
		x, y := begin(t, d), begin(t, d)
		l := some(n + 1)
		add(t, x, "acme", l[n])
		add(t, y, "acme", api.Entry{Number: n + 1, Kind: 9, Tick: 99, Subject: "the other one's"})
		commit(t, x)
		_, e := y.Commit()
		want(t, "the second one", e, api.ErrConflict)
		wantWhole(t, begin(t, d), "acme", l)
	}
}

func TestSerialAtOnce(t *testing.T) { // P24.5: with one sync, too
	d := fresh(t)
	x, y, z := begin(t, d), begin(t, d), begin(t, d)
	for _, one := range []*txn.Txn{x, y} {
		add(t, one, "acme", some(1)[0])
	}
	add(t, z, "other", some(1)[0])
	_, errs := txn.CommitAll([]*txn.Txn{x, y, z})
	want(t, "CommitAll", errs, []api.Errno{api.OK, api.ErrConflict, api.OK})
	wantWhole(t, begin(t, d), "acme", some(1))
	wantWhole(t, begin(t, d), "other", some(1))
}

func TestSerialOfTenants(t *testing.T) { // P24.5: two that append to two tenants' lists both commit
	d := fresh(t)
	for n := range 4 {
		x, y := begin(t, d), begin(t, d)
		add(t, x, "acme", some(n + 1)[n])
		add(t, y, "acme-", some(n + 1)[n])
		commit(t, x)
		commit(t, y)
		for _, tenant := range []string{"acme", "acme-"} {
			wantWhole(t, begin(t, d), tenant, some(n+1))
		}
	}
}

func TestSerialOfPut(t *testing.T) { // P24.5: a ledger that was put meanwhile
	d := fresh(t)
	x, y := begin(t, d), begin(t, d)
	want(t, "Put", audit.Put(x, "acme", api.Ledger{Next: 5, Head: zeros}), api.OK)
	add(t, y, "acme", some(1)[0])
	commit(t, x)
	_, e := y.Commit()
	want(t, "the second one", e, api.ErrConflict)
	wantLedger(t, begin(t, d), "acme", api.Ledger{Next: 5, Head: zeros}, api.OK)
	x = begin(t, d) // those that read alone do not stand in each other's way
	y = begin(t, d)
	audit.Ledger(x, "acme")
	audit.List(x, "acme", 1, 9)
	audit.Check(x, "acme")
	add(t, y, "acme", some(1)[0])
	commit(t, y)
	commit(t, x)
}

// secondCheck is Check told a second time.
func secondCheck(l map[uint64]string, ledger api.Ledger) api.Errno {
	var entries []api.Entry
	whole := uint64(len(l)) == ledger.Entries
	for number := range uint64(40) {
		value, is := l[number]
		if !is {
			whole = whole && (number == 0 || number > ledger.Entries)
			continue
		}
		e, ok := secondEntry(value)
		if !ok {
			return api.ErrRecord
		}
		whole = whole && e.Number == int(number)
		entries = append(entries, e)
	}
	if !whole || headOf(entries) != ledger.Head {
		return api.ErrAudit
	}
	return api.OK
}

// secondEntry is the entry of a text among those of the play, all of whose numbers have one byte.
func secondEntry(s string) (api.Entry, bool) {
	if len(s) < 4 || s[0] < 1 || s[0] > 127 || s[1] < 1 || s[1] > 127 || s[2] > 127 || int(s[3]) != len(s)-4 {
		return api.Entry{}, false
	}
	return api.Entry{Number: int(s[0]), Kind: int(s[1]), Tick: uint64(s[2]), Subject: s[4:]}, true
}

func anyEntry(r *rand.Rand, number int) api.Entry {
	return api.Entry{Number: number, Kind: 1 + r.Intn(9), Tick: uint64(r.Intn(100)), Subject: strings.Repeat("s", r.Intn(9))}
}

func TestCheckPlays(t *testing.T) { // P24.3, P24.4: lists that are turned in some places
	r := rand.New(rand.NewSource(240))
	told := map[api.Errno]int{}
	d := fresh(t)
	for range 1500 {
		x := begin(t, d)
		l := map[uint64]string{}
		n := r.Intn(7)
		for i := range n {
			e := anyEntry(r, i+1)
			add(t, x, "acme", e)
			l[uint64(i+1)] = textOf(e)
		}
		ledger, _ := audit.Ledger(x, "acme")
		for range r.Intn(3) {
			at := uint64(1 + r.Intn(8))
			switch r.Intn(6) {
			case 0:
				delete(l, at)
				x.Delete(entryKey("acme", at))
			case 1, 2, 3:
				l[at] = textOf(anyEntry(r, int(at)+r.Intn(2)*r.Intn(3)))
				if r.Intn(3) == 0 {
					l[at] = l[at][:r.Intn(len(l[at]))]
				}
				put(t, x, entryKey("acme", at), l[at])
			case 4:
				ledger.Entries += uint64(r.Intn(3))
				audit.Put(x, "acme", ledger)
			case 5:
				ledger.Head = headOf(some(r.Intn(3)))
				audit.Put(x, "acme", ledger)
			}
		}
		should := secondCheck(l, ledger)
		told[should]++
		want(t, "Check", audit.Check(x, "acme"), should)
		all, e := audit.List(x, "acme", 1, 99)
		want(t, "List", e == api.ErrRecord, should == api.ErrRecord)
		if e == api.OK {
			want(t, "how many", len(all), len(l))
			numbered := !slices.ContainsFunc(all, func(e api.Entry) bool { return l[uint64(e.Number)] != textOf(e) })
			want(t, "Verify", audit.Verify(all, ledger.Head) && ledger.Entries == uint64(len(all)) && numbered, should == api.OK)
		}
		x.Abort()
	}
	for _, e := range []api.Errno{api.OK, api.ErrRecord, api.ErrAudit} {
		if told[e] < 100 {
			t.Errorf("told: %v", told)
		}
	}
}

func TestTransactionPlays(t *testing.T) { // P24.2, P24.4, P24.5: transactions among one another, with whatever the engine does between
	r := rand.New(rand.NewSource(241))
	names := []string{"a", "a-", "b"}
	refused, done := 0, 0
	for range 12 {
		f := disk()
		d := open(t, f)
		there := map[string][]api.Entry{}
		type one struct {
			x    *txn.Txn
			name string
			sees []api.Entry
			had  int
		}
		var l []*one
		for range 120 {
			switch k := r.Intn(10); {
			case k < 3 || len(l) == 0:
				name := names[r.Intn(3)]
				l = append(l, &one{x: begin(t, d), name: name, sees: slices.Clone(there[name]), had: len(there[name])})
			case k < 7:
				o := l[r.Intn(len(l))]
				e := anyEntry(r, len(o.sees)+1)
				add(t, o.x, o.name, e)
				o.sees = append(o.sees, e)
				wantWhole(t, o.x, o.name, o.sees)
			case k < 9:
				i := r.Intn(len(l))
				o := l[i]
				l = slices.Delete(l, i, i+1)
				_, e := o.x.Commit()
				fits := len(o.sees) == o.had || len(there[o.name]) == o.had // who appended nothing fits always
				want(t, "Commit", e == api.OK, fits)
				if fits && len(o.sees) > o.had {
					there[o.name] = o.sees
					done++
				} else if !fits {
					refused++
				}
			default:
				d.Freeze()
				d.Flush()
				d.Compact()
			}
			for _, o := range l {
				wantList(t, o.x, o.name, 1, 999, o.sees, api.OK)
			}
		}
		f.Crash(api.Crash{})
		d = open(t, f)
		for _, name := range names {
			wantWhole(t, begin(t, d), name, there[name])
		}
	}
	if refused < 50 || done < 50 {
		t.Errorf("%d were refused, %d done", refused, done)
	}
}

func TestModel(t *testing.T) { // P24.4: a list in the engine is the model's
	w, _ := model.New([]api.Tenant{{Name: "acme", Key: "k", Quota: 50}})
	x := begin(t, fresh(t))
	var l []string
	for i := range 60 {
		c := api.Call{Kind: 1 + i%6, User: []string{"ada", "é"}[i%2], TTL: 9, Draw: uint64(i)}
		if len(l) > 0 {
			c.Token = l[len(l)-1]
		}
		a := w.Do(c, uint64(i))
		if a.Status == 201 {
			l = append(l, a.Token)
		}
	}
	all := w.Entries(0)
	for _, e := range all {
		add(t, x, "acme", e)
	}
	wantWhole(t, x, "acme", all)
	ledger, _ := audit.Ledger(x, "acme")
	want(t, "Head", mac.Hex(ledger.Head), w.Head(0))
	if len(all) < 20 {
		t.Errorf("%d entries", len(all))
	}
}
