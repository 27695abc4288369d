package logic

import "arbor/api"

// reader reads the tokens of a formula, rule by rule of the grammar, and gives up at the first with which it can't go on.
type reader struct {
	tokens
	within int // formulas and nots of the grammar that are not over
	parts  int // that have been made
}

// all reads a text to its end.
func (r *reader) all() api.Formula {
	f := r.formula()
	if r.next().text != end {
		r.refuse()
	}
	if r.parts > api.MaxParts {
		giveUp(api.ErrMany, 0)
	}
	return f
}

// enter goes into a formula or a not of the grammar, ahead of the look at the next token: that it stands too deep is told rather than that it may not stand there.
func (r *reader) enter() {
	r.within++
	if r.within > api.MaxParts {
		giveUp(api.ErrMany, 0)
	}
}

func (r *reader) leave() { r.within-- }

// part makes a formula, and counts it.
func (r *reader) part(kind int, a, b string, kids ...api.Formula) api.Formula {
	r.parts++
	return api.Formula{Kind: kind, A: a, B: b, Kids: kids}
}

func (r *reader) formula() api.Formula {
	r.enter()
	defer r.leave()
	switch {
	case r.goesOnWith("all"):
		return r.bound(api.FAll)
	case r.goesOnWith("some"):
		return r.bound(api.FSome)
	}
	first := r.either()
	if r.goesOnWith("->") {
		return r.part(api.FThen, "", "", first, r.formula())
	}
	return first
}

// bound reads names, and the formula in which they are bound, the first one outermost.
func (r *reader) bound(kind int) api.Formula {
	names := []string{r.name(isName)}
	for !r.goesOnWith(":") {
		names = append(names, r.name(isName))
	}
	f := r.formula()
	for i := len(names) - 1; i >= 0; i-- {
		f = r.part(kind, names[i], "", f)
	}
	return f
}

func (r *reader) either() api.Formula {
	f := r.both()
	for r.goesOnWith("or") {
		f = r.part(api.FOr, "", "", f, r.both())
	}
	return f
}

func (r *reader) both() api.Formula {
	f := r.not()
	for r.goesOnWith("and") {
		f = r.part(api.FAnd, "", "", f, r.not())
	}
	return f
}

func (r *reader) not() api.Formula {
	r.enter()
	defer r.leave()
	switch {
	case r.goesOnWith("not"):
		return r.part(api.FNot, "", "", r.not())
	case r.goesOnWith("true"):
		return r.part(api.FTrue, "", "")
	case r.goesOnWith("false"):
		return r.part(api.FFalse, "", "")
	case r.goesOnWith("("):
		f := r.formula()
		r.must(")")
		return f
	}
	return r.ofNames()
}

// ofNames reads what is said of two names.
func (r *reader) ofNames() api.Formula {
	a := r.name(isNode)
	switch {
	case r.goesOnWith("~"):
		return r.part(api.FNear, a, r.name(isNode))
	case r.goesOnWith("="):
		return r.part(api.FSame, a, r.name(isNode))
	}
	r.must("in")
	return r.part(api.FIn, a, r.name(isSet))
}

// name reads a name of a kind that may stand here.
func (r *reader) name(may func(text string) bool) string {
	text := r.next().text
	if !may(text) {
		r.refuse()
	}
	r.must(text)
	return text
}
