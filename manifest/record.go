package manifest

import (
	"slices"

	"atrium/api"
	"atrium/codec"
	"atrium/wal"
)

// Encode is an edit's record.
func Encode(e api.Edit) (string, api.Errno) {
	if anyBelow(e) {
		return "", api.ErrArg
	}
	w := codec.NewWriter(api.MaxRecord)
	put(w, e.Log, e.Next)
	w.Varint(e.Seq)
	put(w, len(e.Gone))
	for _, a := range e.Gone {
		put(w, a.Level, a.Number)
	}
	put(w, len(e.Added))
	for _, p := range e.Added {
		put(w, p.Level, p.Sst.Number, p.Sst.Size, p.Sst.Count)
		w.Text(p.Sst.First)
		w.Text(p.Sst.Last)
	}
	return w.Done()
}

// put puts numbers, none of which is below 0.
func put(w *codec.Writer, numbers ...int) {
	for _, n := range numbers {
		w.Varint(uint64(n))
	}
}

// anyBelow tells whether a number of an edit is below 0.
func anyBelow(e api.Edit) bool {
	gone := func(a api.At) bool { return min(a.Level, a.Number) < 0 }
	added := func(p api.Placed) bool { return min(p.Level, p.Sst.Number, p.Sst.Size, p.Sst.Count) < 0 }
	return min(e.Log, e.Next) < 0 || slices.ContainsFunc(e.Gone, gone) || slices.ContainsFunc(e.Added, added)
}

// Decode is the edit that a record is. An edit has just one form, so that a record is its if it comes out once more.
func Decode(rec string) (api.Edit, api.Errno) {
	e := read(codec.NewReader(rec))
	if again, no := Encode(e); no != api.OK || again != rec {
		return api.Edit{}, api.ErrEdit
	}
	return e, api.OK
}

// read takes any bytes as an edit's. A number that no int has becomes another one; a list ends where the bytes do.
func read(r *codec.Reader) api.Edit {
	e := api.Edit{Log: number(r), Next: number(r), Seq: r.Varint()}
	for n := r.Varint(); n > 0 && r.Left() > 0; n-- {
		e.Gone = append(e.Gone, api.At{Level: number(r), Number: number(r)})
	}
	for n := r.Varint(); n > 0 && r.Left() > 0; n-- {
		p := api.Placed{Level: number(r)}
		p.Sst = api.Sst{Number: number(r), Size: number(r), Count: number(r), First: r.Text(), Last: r.Text()}
		e.Added = append(e.Added, p)
	}
	return e
}

func number(r *codec.Reader) int {
	return int(r.Varint())
}

// Load is the state that a manifest's bytes say, and where the last whole record ends.
func Load(b []byte) (api.State, int, api.Errno) {
	recs, end, why := wal.Scan(b)
	if why == api.EndBad || len(recs) == 0 {
		return api.State{}, 0, api.ErrManifest
	}
	s := empty()
	for _, rec := range recs {
		e, no := Decode(rec)
		if no == api.OK {
			s, no = step(s, e)
		}
		if no != api.OK {
			return api.State{}, 0, api.ErrManifest
		}
	}
	return s, end, api.OK
}
