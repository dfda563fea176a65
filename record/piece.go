package record

import (
	"atrium/api"
	"atrium/cred"
	"atrium/text"
)

// piece is a part of keys: whether what a place has may stand there, what that is in a key, and how it is read from one.
type piece struct {
	may  func(p api.Place) bool
	part func(p api.Place) api.Part
	read func(p *api.Place, x api.Part)
}

func tenantPiece() piece {
	return piece{
		may:  func(p api.Place) bool { return isTenant(p.Tenant) },
		part: func(p api.Place) api.Part { return api.Part{Text: p.Tenant} },
		read: func(p *api.Place, x api.Part) { p.Tenant = x.Text },
	}
}

// letterPiece says nothing but the kind.
func letterPiece(letter string) piece {
	return piece{
		may:  func(api.Place) bool { return true },
		part: func(api.Place) api.Part { return api.Part{Text: letter} },
		read: func(*api.Place, api.Part) {},
	}
}

func tokenPiece() piece {
	return piece{
		may:  func(p api.Place) bool { return isToken(p.Token) },
		part: func(p api.Place) api.Part { return api.Part{Text: p.Token} },
		read: func(p *api.Place, x api.Part) { p.Token = x.Text },
	}
}

func userPiece() piece {
	return piece{
		may:  func(p api.Place) bool { return text.Name(p.User) },
		part: func(p api.Place) api.Part { return api.Part{Text: p.User} },
		read: func(p *api.Place, x api.Part) { p.User = x.Text },
	}
}

func expiresPiece() piece {
	return piece{
		may:  func(api.Place) bool { return true },
		part: func(p api.Place) api.Part { return api.Part{Num: p.Expires, IsNum: true} },
		read: func(p *api.Place, x api.Part) { p.Expires = x.Num },
	}
}

// numberPiece reads what is above the greatest number as one below 0, so that it may not stand there.
func numberPiece() piece {
	return piece{
		may:  func(p api.Place) bool { return p.Number >= 1 },
		part: func(p api.Place) api.Part { return api.Part{Num: uint64(p.Number), IsNum: true} },
		read: func(p *api.Place, x api.Part) { p.Number = int(x.Num) },
	}
}

// isTenant tells whether a text may be a tenant's Name: whether one may be that has nothing else that could be wrong.
func isTenant(s string) bool {
	return cred.Check([]api.Tenant{{Name: s, Key: "any"}}) == api.OK
}

func isToken(s string) bool {
	_, _, e := cred.ParseToken(s)
	return e == api.OK
}

// partsOf is the parts of a key of pieces, and whether all may stand there.
func partsOf(p api.Place, l []piece) ([]api.Part, bool) {
	var parts []api.Part
	for _, x := range l {
		if !x.may(p) {
			return nil, false
		}
		parts = append(parts, x.part(p))
	}
	return parts, true
}
