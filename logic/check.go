package logic

import "arbor/api"

// shape is what a kind of formulas wants: so many Kids, and what A and B must be.
type shape struct {
	kids int
	a, b func(text string) bool
}

// shapeOf answers the shape of a kind, and whether there is such a kind.
func shapeOf(kind int) (shape, bool) {
	switch kind {
	case api.FTrue, api.FFalse:
		return shape{0, isEmpty, isEmpty}, true
	case api.FNear, api.FSame:
		return shape{0, isNode, isNode}, true
	case api.FIn:
		return shape{0, isNode, isSet}, true
	case api.FNot:
		return shape{1, isEmpty, isEmpty}, true
	case api.FAnd, api.FOr, api.FThen:
		return shape{2, isEmpty, isEmpty}, true
	case api.FAll, api.FSome:
		return shape{1, isName, isEmpty}, true
	}
	return shape{}, false
}

// checker goes through the parts of a formula, and counts those that it has come to: a formula whose Kids lead back to it has no end.
type checker struct{ met int }

func (c *checker) check(f api.Formula) api.Fault {
	if c.met == api.MaxParts {
		return api.Fault{Code: api.ErrMany}
	}
	at := c.met
	c.met++
	if code := codeOf(f); code != api.OK {
		return api.Fault{Code: code, At: at}
	}
	for _, kid := range f.Kids {
		if fault := c.check(kid); fault.Code != api.OK {
			return fault
		}
	}
	return api.Fault{}
}

// codeOf tells what is wrong with a part, whatever its Kids are.
func codeOf(f api.Formula) int {
	shape, ok := shapeOf(f.Kind)
	switch {
	case !ok:
		return api.ErrKind
	case len(f.Kids) != shape.kids:
		return api.ErrSize
	case !shape.a(f.A) || !shape.b(f.B):
		return api.ErrName
	}
	return api.OK
}
