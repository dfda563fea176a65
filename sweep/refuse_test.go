package sweep_test

import (
	"testing"

	"atrium/api"
	"atrium/lsm"
	"atrium/sweep"
	"atrium/vfs"
)

// crowd is the records of so many sessions of a tenant, which expire at 1, 2, ..
func crowd(tenant string, n int) []api.Pair {
	var l []api.Pair
	for i := range n {
		l = append(l, recordsOf(tenant, some(i, uint64(i+1)))...)
	}
	return l
}

// fullDisk is an engine with a crowd on a disk that has room for so many bytes more.
func fullDisk(t *testing.T, n, room int) *lsm.DB {
	t.Helper()
	f, _ := vfs.New(1 << 19)
	d := open(t, f)
	write(t, d, crowd("acme", n)...)
	want(t, "Create", f.Create("ballast"), api.OK)
	want(t, "Append", f.Append("ballast", make([]byte, f.Left()-room)), api.OK)
	return d
}

func TestFull(t *testing.T) { // P26.2, P26.3: what Commit refuses for want of room
	d := fullDisk(t, 5, 10)
	for range 3 {
		wantStep(t, d, []string{"acme"}, 9, false, api.ErrFull)
		wantRun(t, d, []string{"acme"}, 9, 9, 0, api.ErrFull)
		wantLies(t, "nothing has changed", d, crowd("acme", 5))
		want(t, "Left", sweep.Left(d, []string{"acme"}, 9), 5)
		wantFind(t, d, []string{"acme"}, 9, expiryOf("acme", some(0, 1)))
		wantStep(t, d, []string{"none"}, 9, false, api.OK)
	}
}

func TestFullInTheMiddle(t *testing.T) { // P26.3: how many were done ahead of that
	for room := 100; room < 1400; room += 100 {
		d := fullDisk(t, 9, room)
		n, e := sweep.Run(d, []string{"acme"}, 99, 99)
		if n == 9 {
			want(t, "Run", e, api.OK)
			break
		}
		want(t, "Run", e, api.ErrFull)
		if n < 1 && room > 300 {
			t.Errorf("none was done with room for %d", room)
		}
		wantLies(t, "so many are gone", d, crowd("acme", 9)[3*n:])
		wantRun(t, d, []string{"acme"}, 99, 99, 0, api.ErrFull)
	}
}

// keeps is crashes that keep more and more of what was not synced.
func keeps(f *vfs.FS) []api.Crash {
	var l []api.Crash
	for _, keep := range []int{0, 1, 20, 1 << 20} {
		files := make([]int, len(f.List()))
		for i := range files {
			files[i] = keep
		}
		l = append(l, api.Crash{Dir: 0, Keep: files}, api.Crash{Dir: f.Pending(), Keep: files})
	}
	return l
}

func TestFails(t *testing.T) { // P26.2, P26.3: an operation fails in the middle: here nothing has changed, and behind an opening anew all of it or not
	both := 0
	for _, op := range []int{api.OpAppend, api.OpSync} {
		for nth := 1; nth < 4; nth++ {
			for _, kind := range []int{api.FaultClean, api.FaultDone} {
				f := disk()
				d := open(t, f)
				write(t, d, crowd("acme", 5)...)
				f.Fail([]api.Fault{{Op: op, Nth: nth, Kind: kind}})
				wantRun(t, d, []string{"acme"}, 9, 9, nth-1, api.ErrIO)
				rest := crowd("acme", 5)[3*(nth-1):]
				wantLies(t, "so many are gone", d, rest)
				wantStep(t, d, []string{"acme"}, 9, false, api.ErrStopped)
				wantRun(t, d, []string{"acme"}, 9, 9, 0, api.ErrStopped)
				wantStep(t, d, []string{"none"}, 9, false, api.OK)
				wantLies(t, "so many are gone", d, rest)
				found := map[int]int{}
				for _, crash := range keeps(f) {
					g := f.Fork()
					g.Crash(crash)
					d := open(t, g)
					n := len(all(d))
					found[n]++
					if n != len(rest) {
						wantLies(t, "one more is gone", d, rest[3:])
					} else {
						wantLies(t, "it is there", d, rest)
					}
				}
				if len(found) == 2 {
					both++
				}
			}
		}
	}
	if both < 3 {
		t.Errorf("both were found %d times", both)
	}
}
