package svc_test

import (
	"strings"
	"testing"

	"atrium/api"
	"atrium/svc"
	"atrium/sweep"
	"atrium/vfs"
)

// wrongNames is no tenants' Names.
func wrongNames() []string {
	return []string{"", "No", "a b", "a.b", "é", "a\x00", "\xFF", strings.Repeat("a", 33), strings.Repeat("a", 500)}
}

func TestLiveRefused(t *testing.T) { // P25.3: no engine, no name, both, wrong records
	b := newBench(t, 9)
	b.create(0, "ada", 9, 10)
	ahead := b.d.Info()
	for _, name := range append(wrongNames(), "b", "none") {
		s, e := svc.Live(nil, name, 10)
		want(t, "Live without an engine", e, api.ErrArg)
		want(t, "Live without an engine", s, nil)
		n, e := svc.Entries(nil, name)
		want(t, "Entries without an engine", e, api.ErrArg)
		want(t, "Entries without an engine", n, nil)
	}
	for _, name := range wrongNames() {
		s, e := svc.Live(b.d, name, 10)
		want(t, "Live of "+name, e, api.ErrPlace)
		want(t, "Live of "+name, s, nil)
		n, e := svc.Entries(b.d, name)
		want(t, "Entries of "+name, e, api.ErrPlace)
		want(t, "Entries of "+name, n, nil)
	}
	want(t, "the engine", b.d.Info(), ahead)
	for _, x := range wrongs("b") {
		d := fresh(t)
		write(t, d, x.pair)
		ahead := d.Info()
		s, e := svc.Live(d, "b", 10)
		n, f := svc.Entries(d, "b")
		fault := map[byte]api.Errno{'s': e, 'a': f, 'l': x.fault}[x.pair.Key[4]]
		want(t, "the wrong record", fault, x.fault)
		want(t, "one of both at most", e == api.OK || f == api.OK, true)
		want(t, "Live", plainList(s), nil)
		want(t, "Entries", plainList(n), nil)
		want(t, "the engine", d.Info(), ahead)
	}
}

func TestLive(t *testing.T) { // P25.3: at the tick at which a session expires; by tokens
	b := newBench(t, 99, 9)
	for i := range 20 {
		c := create("ada", 5+i%3, uint64(i*7919))
		c.Data = strings.Repeat("d", i)
		b.do(c, 10)
	}
	b.create(1, "eve", 5, 10)
	for _, now := range []uint64{0, 9, 10, 14, 15, 16, 17, 1 << 63, 1<<64 - 1} {
		b.lies(now)
	}
	s, _ := svc.Live(b.d, "b", 14)
	want(t, "at 14", len(s), 20)
	s, _ = svc.Live(b.d, "b", 15)
	want(t, "at 15", len(s), 13)
	s, _ = svc.Live(b.d, "b", 17)
	want(t, "at 17", len(s), 0)
	s, e := svc.Live(b.d, "nobody", 0)
	want(t, "of nobody", e, api.OK)
	want(t, "of nobody", plainList(s), nil)
	n, e := svc.Entries(b.d, "nobody")
	want(t, "of nobody", e, api.OK)
	want(t, "of nobody", plainList(n), nil)
}

func TestLiveOverLevels(t *testing.T) { // P25.3, P25.5: the state as it is, whatever the engine does between
	f, _ := vfs.New(api.MaxDisk)
	b := benchOn(t, open(t, f), 99, 9)
	tok := b.create(0, "ada", 5, 10)
	steps := []func(){
		func() { b.d.Freeze() }, func() { b.d.Flush() }, func() { b.d.Compact() },
		func() { f.Crash(api.Crash{}); b.d = open(t, f) },
		func() { sweep.Run(b.d, []string{"b", "a"}, 12, 99); b.swept = 12 },
	}
	now := uint64(13)
	for range 4 {
		for _, step := range steps {
			step()
			b.check(now)
			b.do(api.Call{Kind: api.CallTouch, Token: tok, TTL: 5}, now)
			b.create(1, "eve", 1, now)
			step()
			b.check(now + 1)
			now++
		}
	}
}
