package lsm_test

import (
	"math"
	"testing"

	"atrium/api"
)

func TestSnap(t *testing.T) { // P13.5
	d := fresh(t, small())
	want(t, "Release of none", d.Release(0), api.ErrNone)
	want(t, "Snap", d.Snap(), 0)
	mustWrite(t, d, "a=1")
	want(t, "Oldest", d.Info().Oldest, 0)
	want(t, "Snap", d.Snap(), 1)
	want(t, "the same again", d.Snap(), 1)
	mustWrite(t, d, "a=2")
	mustWrite(t, d, "a=3")
	want(t, "Release of one that is not kept", d.Release(2), api.ErrNone)
	want(t, "Release of the last one", d.Release(3), api.ErrNone)
	want(t, "Release beyond", d.Release(math.MaxUint64), api.ErrNone)
	want(t, "Snap", d.Snap(), 3)
	want(t, "Oldest", d.Info().Oldest, 0)
	want(t, "Release", d.Release(0), api.OK)
	want(t, "Release again", d.Release(0), api.ErrNone)
	want(t, "Oldest", d.Info().Oldest, 1)
	want(t, "Release", d.Release(1), api.OK)
	want(t, "once more kept", d.Info().Oldest, 1)
	want(t, "Release", d.Release(1), api.OK)
	want(t, "Release again", d.Release(1), api.ErrNone)
	want(t, "Oldest", d.Info().Oldest, 3)
	mustWrite(t, d, "a=4")
	want(t, "Oldest", d.Info().Oldest, 3)
	want(t, "Release", d.Release(3), api.OK)
	want(t, "the last one", d.Info().Oldest, 4)
	want(t, "Snap again", d.Snap(), 4)
	want(t, "Release", d.Release(4), api.OK)
}

func TestSnapKeeps(t *testing.T) { // P13.5: what could be read can be read, whatever is laid down and merged
	d := fresh(t, small())
	var m told
	write := func(words ...string) {
		mustWrite(t, d, words...)
		m = m.with(batch(words...))
	}
	write("a=1", "b=1")
	first := d.Snap()
	write("a-", "b=2")
	write("a=3")
	second := d.Snap()
	write("a-", "b-")
	mustFreeze(t, d)
	mustFlush(t, d)
	write("a=5", "c=5")
	mustFreeze(t, d)
	mustFlush(t, d)
	mustCompact(t, d)
	for seq := first; seq <= 5; seq++ {
		want(t, "at what is kept, and above", text(d, seq), m.text("", "", seq))
	}
	want(t, "all cells from the first on", cellText(cellsOf(t, d)), "a5=5 a4- a3=3 a2- a1=1 b4- b2=2 b1=1 c5=5")
	want(t, "Release", d.Release(first), api.OK)
	write("A=6", "d=6")
	mustFreeze(t, d)
	mustFlush(t, d)
	write("d=7")
	mustFreeze(t, d)
	mustFlush(t, d)
	mustCompact(t, d)
	for seq := second; seq <= 7; seq++ {
		want(t, "at what is kept, and above", text(d, seq), m.text("", "", seq))
	}
	want(t, "all cells from the second on", cellText(cellsOf(t, d)), "A6=6 a5=5 a4- a3=3 b4- b2=2 c5=5 d7=7 d6=6")
	want(t, "Release", d.Release(second), api.OK)
	write("A=8", "e=8")
	mustFreeze(t, d)
	mustFlush(t, d)
	write("e-")
	mustFreeze(t, d)
	mustFlush(t, d)
	mustCompact(t, d)
	want(t, "what is there", now(d), m.text("", "", 9))
	want(t, "nobody sees the others", cellText(cellsOf(t, d)), "A8=8 a5=5 c5=5 d7=7")
}
