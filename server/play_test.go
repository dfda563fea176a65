package server_test

import (
	"testing"

	"atrium/api"
)

func TestPlays(t *testing.T) { // P27.2 to P27.5, P27.7, P27.8: nothing fails; terms end in crashes
	of, end := map[int]int{}, map[int]int{}
	for seed := range int64(60) {
		d := newDice(seed)
		x := play(t, d.c, d.terms(1+d.r.Intn(3), func(x *api.Term) { x.Crash = d.keeps() })...)
		want(t, "Err", x.Err, api.OK)
		statuses(x, of)
		fates(x, end)
	}
	hasAll(t, "told", of, 20, 200, 201, 204, 400, 401, 404, 405, 429)
	hasAll(t, "fates", end, 30, api.FateOpen, api.FateDone)
}

func TestPlaysOfWildBytes(t *testing.T) { // P27.8
	of := map[int]int{}
	for seed := range int64(50) {
		d := newDice(1000 + seed)
		d.wild = true
		statuses(play(t, d.c, d.terms(1+d.r.Intn(2), func(x *api.Term) { x.Crash = d.keeps() })...), of)
	}
	hasAll(t, "told", of, 10, 200, 201, 400, 401)
}

func TestPlaysWithoutPower(t *testing.T) { // P27.4, P27.5: the power goes anywhere, also in an opening
	end, opens := map[int]int{}, map[api.Errno]int{}
	for seed := range int64(80) {
		d := newDice(2000 + seed)
		x := play(t, d.c, d.terms(2+d.r.Intn(3), func(x *api.Term) {
			x.Stop = pickOf(d.r, -1, d.r.Intn(20), d.r.Intn(20), d.r.Intn(60), d.r.Intn(120))
			x.Crash = d.keeps()
		})...)
		fates(x, end)
		for _, s := range x.Terms {
			opens[s.Open]++
		}
	}
	hasAll(t, "fates", end, 15, api.FateOpen, api.FateDone, api.FateUnsure)
	if opens[api.OK] < 50 || opens[api.ErrIO] < 20 {
		t.Errorf("opens: %v", opens)
	}
}

// faults is some that may be.
func (d *dice) faults() []api.Fault {
	var l []api.Fault
	used := map[api.Fault]int{}
	for range d.r.Intn(4) {
		x := api.Fault{Op: pickOf(d.r, api.OpAppend, api.OpSync, 1+d.r.Intn(7)), Nth: 1 + d.r.Intn(30)}
		if used[x]++; used[x] == 1 {
			x.Kind = 1 + d.r.Intn(2)
			l = append(l, x)
		}
	}
	return l
}

func TestPlaysThatFail(t *testing.T) { // P27.4, P27.5: operations that fail, and the power that goes besides
	of, end, opens := map[int]int{}, map[int]int{}, map[api.Errno]int{}
	for seed := range int64(80) {
		d := newDice(3000 + seed)
		x := play(t, d.c, d.terms(2+d.r.Intn(3), func(x *api.Term) {
			x.Faults = d.faults()
			x.Stop = pickOf(d.r, -1, -1, -1, d.r.Intn(80))
			x.Crash = d.keeps()
		})...)
		statuses(x, of)
		fates(x, end)
		for _, s := range x.Terms {
			opens[s.Open]++
		}
	}
	hasAll(t, "told", of, 10, 200, 201, 500)
	hasAll(t, "fates", end, 10, api.FateOpen, api.FateDone, api.FateUnsure, api.FateNone)
	if opens[api.OK] < 50 || opens[api.ErrIO] < 5 {
		t.Errorf("opens: %v", opens)
	}
}

func TestPlaysWithoutRoom(t *testing.T) { // P27.4: disks that become full, among what else goes wrong
	of, end, errs := map[int]int{}, map[int]int{}, map[api.Errno]int{}
	for seed := range int64(80) {
		d := newDice(4000 + seed)
		d.c.Capacity = pickOf(d.r, 0, d.r.Intn(300), 300+d.r.Intn(3000), 300+d.r.Intn(3000), 3000+d.r.Intn(6000))
		x := play(t, d.c, d.terms(1+d.r.Intn(3), func(x *api.Term) {
			if d.r.Intn(4) == 0 {
				x.Faults, x.Stop = d.faults(), pickOf(d.r, -1, d.r.Intn(80))
			}
			x.Crash = d.keeps()
		})...)
		statuses(x, of)
		fates(x, end)
		errs[x.Err]++
	}
	hasAll(t, "told", of, 10, 200, 201, 507)
	hasAll(t, "fates", end, 10, api.FateOpen, api.FateDone, api.FateNone)
	if errs[api.OK] < 20 || errs[api.ErrFull] < 20 {
		t.Errorf("errs: %v", errs)
	}
}
