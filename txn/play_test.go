package txn_test

import (
	"fmt"
	"maps"
	"math/rand"
	"slices"
	"strconv"
	"strings"
	"testing"

	"atrium/api"
	"atrium/lsm"
	"atrium/txn"
)

// world is what there is behind each sequence.
type world []map[string]string

// with is that with one commit more.
func (w world) with(l []api.Write) world {
	next := maps.Clone(w[len(w)-1])
	for _, x := range l {
		delete(next, x.Key)
		if !x.Gone {
			next[x.Key] = x.Value
		}
	}
	return append(w, next)
}

// text is a state as Scan tells it.
func text(state map[string]string) string {
	var l []string
	for _, k := range slices.Sorted(maps.Keys(state)) {
		l = append(l, k+"="+state[k])
	}
	return strings.Join(l, " ")
}

// actor is a transaction, and what it should have.
type actor struct {
	x      *txn.Txn
	snap   int
	writes map[string]api.Write
}

// sees is the state at its snapshot with its writes.
func (a *actor) sees(w world) map[string]string {
	return world{w[a.snap]}.with(slices.Collect(maps.Values(a.writes)))[1]
}

// conflicts tells whether one of the commits behind its snapshot wrote one of its keys; commits are the keys of each.
func (a *actor) conflicts(commits [][]string) bool {
	for _, keys := range commits[a.snap:] {
		for _, key := range keys {
			if _, is := a.writes[key]; is {
				return true
			}
		}
	}
	return false
}

// play is an engine with transactions side by side, and its history.
type play struct {
	t       *testing.T
	r       *rand.Rand
	d       *lsm.DB
	w       world
	commits [][]string // of each sequence the keys that it wrote
	actors  []*actor
}

// outcome is what a commit should tell; the history goes on.
func (p *play) outcome(a *actor) (uint64, api.Errno) {
	if a.conflicts(p.commits) {
		return 0, api.ErrConflict
	}
	if len(a.writes) == 0 {
		return uint64(a.snap), api.OK
	}
	p.w = p.w.with(slices.Collect(maps.Values(a.writes)))
	p.commits = append(p.commits, slices.Collect(maps.Keys(a.writes)))
	return uint64(len(p.commits)), api.OK
}

func (p *play) step() {
	r := p.r
	if len(p.actors) < 5 && r.Intn(3) == 0 {
		x := begin(p.t, p.d)
		p.actors = append(p.actors, &actor{x: x, snap: len(p.commits), writes: map[string]api.Write{}})
	}
	if len(p.actors) == 0 {
		return
	}
	i := r.Intn(len(p.actors))
	a := p.actors[i]
	key := "k" + strconv.Itoa(r.Intn(8))
	switch n := r.Intn(16); {
	case n < 5:
		value := strconv.Itoa(r.Intn(1000))
		want(p.t, "Put", a.x.Put(key, value), api.OK)
		a.writes[key] = api.Write{Key: key, Value: value}
	case n < 7:
		want(p.t, "Delete", a.x.Delete(key), api.OK)
		a.writes[key] = api.Write{Key: key, Gone: true}
	case n < 9:
		v, is := a.x.Get(key)
		should, there := a.sees(p.w)[key]
		want(p.t, "Get", v, should)
		want(p.t, "is there", is, there)
	case n < 11:
		want(p.t, "Scan", seen(a.x, "", ""), text(a.sees(p.w)))
	case n < 13:
		seq, e := p.outcome(a)
		wantCommit(p.t, "Commit", a.x, seq, e)
		p.actors = slices.Delete(p.actors, i, i+1)
	case n < 14:
		want(p.t, "Abort", a.x.Abort(), api.OK)
		p.actors = slices.Delete(p.actors, i, i+1)
	case n < 15:
		p.commitAll()
	default:
		p.d.Freeze()
		p.d.Flush()
		p.d.Compact()
	}
}

// commitAll commits all that there are, in some order.
func (p *play) commitAll() {
	p.r.Shuffle(len(p.actors), func(i, j int) { p.actors[i], p.actors[j] = p.actors[j], p.actors[i] })
	var l []*txn.Txn
	var seqs []uint64
	var errs []api.Errno
	for _, a := range p.actors {
		l = append(l, a.x)
		seq, e := p.outcome(a)
		seqs, errs = append(seqs, seq), append(errs, e)
	}
	wantAll(p.t, "CommitAll", l, seqs, errs)
	p.actors = nil
}

func TestHistories(t *testing.T) { // P14.1 to P14.3, P14.5 to P14.7
	r := rand.New(rand.NewSource(1))
	for range 150 {
		p := &play{t: t, r: r, d: fresh(t), w: world{{}}}
		for range 200 {
			p.step()
			want(t, "the state of the engine", there(p.d), text(p.w[len(p.w)-1]))
			oldest := len(p.commits)
			for _, a := range p.actors {
				oldest = min(oldest, a.snap)
			}
			want(t, "just those snapshots are kept", p.d.Info().Oldest, uint64(oldest))
			if t.Failed() {
				t.FailNow()
			}
		}
		want(t, "Seq", p.d.Info().Seq, uint64(len(p.commits)))
	}
}

func TestSerial(t *testing.T) { // P14.7: each writes one key that all others write, too: each saw the state behind the one ahead
	r := rand.New(rand.NewSource(2))
	d := fresh(t)
	done := 0
	for done < 200 {
		var l []*txn.Txn
		for range 1 + r.Intn(4) {
			x := begin(t, d)
			v, _ := x.Get("count")
			n, _ := strconv.Atoi(v)
			want(t, "it saw all that were committed ahead", n, done)
			want(t, "Put", x.Put("count", strconv.Itoa(n+1)), api.OK)
			want(t, "Put", x.Put(fmt.Sprint("entry-", n+1), "x"), api.OK)
			l = append(l, x)
		}
		_, errs := txn.CommitAll(l)
		for i, e := range errs {
			if i == 0 {
				want(t, "the first committer wins", e, api.OK)
			} else {
				want(t, "the others do not", e, api.ErrConflict)
			}
		}
		done++
		if r.Intn(5) == 0 {
			down(t, d)
		}
	}
	want(t, "all entries", len(strings.Fields(there(d))), 201)
}
