package logic_test

import (
	"fmt"
	"regexp"
	"slices"
	"strings"
	"unicode"
	"unicode/utf8"

	"arbor/api"
)

// The second account: the chapter's words, by other means than the program's.

var (
	wholeName = regexp.MustCompile(`^\pL[\pL\p{Nd}]*$`)
	oneToken  = regexp.MustCompile(`^(?:[ \n]+|\pL[\pL\p{Nd}]*|->|[~=:()])`)
)

// kindOfName answers "node", "set" or "" of a text.
func kindOfName(text string) string {
	if !wholeName.MatchString(text) || strings.Contains(" all some not and or in true false ", " "+text+" ") {
		return ""
	}
	if first, _ := utf8.DecodeRuneInString(text); unicode.Is(unicode.Lu, first) {
		return "set"
	}
	return "node"
}

// kidsOf answers how many Kids a kind has; of no kind -1.
func kidsOf(kind int) int {
	kids := []int{-1, 0, 0, 0, 0, 0, 1, 2, 2, 2, 1, 1}
	if kind < 0 || kind >= len(kids) {
		return -1
	}
	return kids[kind]
}

// wantsName tells which kinds of names may stand as A and B.
func wantsName(kind int) (a, b []string) {
	switch kind {
	case api.FNear, api.FSame:
		return []string{"node"}, []string{"node"}
	case api.FIn:
		return []string{"node"}, []string{"set"}
	case api.FAll, api.FSome:
		return []string{"node", "set"}, nil
	}
	return nil, nil
}

func fitsName(text string, kinds []string) bool {
	if kinds == nil {
		return text == ""
	}
	return slices.Contains(kinds, kindOfName(text))
}

// partsOf lists the first parts of a formula, each ahead of its Kids, at most so many, without a function that calls itself.
func partsOf(f api.Formula, most int) []api.Formula {
	var out []api.Formula
	left := []api.Formula{f}
	for len(left) > 0 && len(out) < most {
		next := left[len(left)-1]
		left = left[:len(left)-1]
		out = append(out, next)
		for _, kid := range slices.Backward(next.Kids) {
			left = append(left, kid)
		}
	}
	return out
}

func wantCheck(f api.Formula) api.Fault {
	for at, p := range partsOf(f, api.MaxParts+1) {
		a, b := wantsName(p.Kind)
		switch {
		case at == api.MaxParts:
			return fault(api.ErrMany, 0)
		case kidsOf(p.Kind) < 0:
			return fault(api.ErrKind, at)
		case len(p.Kids) != kidsOf(p.Kind):
			return fault(api.ErrSize, at)
		case !fitsName(p.A, a) || !fitsName(p.B, b):
			return fault(api.ErrName, at)
		}
	}
	return api.Fault{}
}

// piece is a token, and the byte where it begins.
type piece struct {
	text string
	at   int
}

// pieces cuts a text into tokens, and answers the first byte that begins none, or -1.
func pieces(s string) ([]piece, int) {
	var out []piece
	for at := 0; at < len(s); {
		found := oneToken.FindString(s[at:])
		if found == "" {
			return nil, at
		}
		if strings.Trim(found, " \n") != "" {
			out = append(out, piece{found, at})
		}
		at += len(found)
	}
	return append(out, piece{"", len(s)}), -1
}

// rules are the grammar's: a word behind ' is a token, NODE, SET and NAME are names, and all else is a rule; what stands any number of times is a rule of its own, which may be over at once.
func rules(name string) [][]string {
	text := map[string]string{
		"formula": "'all names | 'some names | either then",
		"names":   "NAME more",
		"more":    "': formula | NAME more",
		"then":    "| '-> formula",
		"either":  "both ors",
		"ors":     "| 'or both ors",
		"both":    "not ands",
		"ands":    "| 'and not ands",
		"not":     "'not not | 'true | 'false | '( formula ') | NODE '~ NODE | NODE '= NODE | NODE 'in SET",
	}[name]
	var out [][]string
	for rule := range strings.SplitSeq(text, "|") {
		out = append(out, strings.Fields(rule))
	}
	return out
}

// rest is what must still come: a rule's name or a token, and what is behind it. OVER tells where a formula or a not is over.
type rest struct {
	what   string
	behind *rest
	within int // how many are not over
}

func (r *rest) ahead(what string) *rest {
	next := &rest{what, r, 0}
	if r != nil {
		next.within = r.within
	}
	if what == "OVER" {
		next.within++
	}
	return next
}

// begins goes into rules until a token must come, in each way that there is.
func begins(r *rest) []*rest {
	switch {
	case r.what == "OVER":
		return begins(r.behind)
	case strings.HasPrefix(r.what, "'") || strings.ToUpper(r.what) == r.what:
		return []*rest{r}
	}
	after := r.behind
	if r.what == "formula" || r.what == "not" {
		after = after.ahead("OVER")
	}
	var out []*rest
	for _, rule := range rules(r.what) {
		next := after
		for _, what := range slices.Backward(rule) {
			next = next.ahead(what)
		}
		out = append(out, begins(next)...)
	}
	return out
}

func takes(what, text string) bool {
	switch what {
	case "NODE":
		return kindOfName(text) == "node"
	case "SET":
		return kindOfName(text) == "set"
	case "NAME":
		return kindOfName(text) != ""
	}
	return what == "'"+text
}

// atStart is a formula, and behind it the end of the text, a token without bytes.
func atStart() []*rest { return []*rest{(*rest)(nil).ahead("'").ahead("formula")} }

// goOn goes on with a token in each way that there is, and answers how deep it stands; if there is none, within how much it would stand at most.
func goOn(ways []*rest, text string) (next []*rest, within int) {
	deepest := 0
	for _, way := range ways {
		for _, r := range begins(way) {
			deepest = max(deepest, r.within)
			if takes(r.what, text) {
				next, within = append(next, r.behind), r.within
			}
		}
	}
	if next == nil {
		return nil, deepest
	}
	return next, within
}

// partsIn counts the parts that tokens tell of: two names belong to each ~, = and in, and each of the others is bound.
func partsIn(l []piece) int {
	parts := 0
	for _, p := range l {
		switch p.text {
		case "~", "=", "in":
			parts--
		case "not", "and", "or", "->", "true", "false":
			parts++
		}
		if kindOfName(p.text) != "" {
			parts++
		}
	}
	return parts
}

func wantReadFault(s string) api.Fault {
	if len(s) > api.MaxText {
		return fault(api.ErrMany, 0)
	}
	l, bad := pieces(s)
	if bad >= 0 {
		return fault(api.ErrText, bad)
	}
	ways := atStart()
	for _, p := range l {
		next, within := goOn(ways, p.text)
		switch {
		case within > api.MaxParts:
			return fault(api.ErrMany, 0)
		case next == nil:
			return fault(api.ErrText, p.at)
		}
		ways = next
	}
	if partsIn(l) > api.MaxParts {
		return fault(api.ErrMany, 0)
	}
	return api.Fault{}
}

// wantRead splits the tokens of a text where it holds together least.
func wantRead(s string) (api.Formula, api.Fault) {
	if f := wantReadFault(s); f != (api.Fault{}) {
		return api.Formula{}, f
	}
	l, _ := pieces(s)
	var texts []string
	for _, p := range l[:len(l)-1] {
		texts = append(texts, p.text)
	}
	return split(texts), api.Fault{}
}

func split(l []string) api.Formula {
	kinds := map[string]int{"all": api.FAll, "some": api.FSome, "->": api.FThen, "or": api.FOr, "and": api.FAnd, "~": api.FNear, "=": api.FSame, "in": api.FIn, "true": api.FTrue, "false": api.FFalse}
	if l[0] == "all" || l[0] == "some" {
		if l[2] == ":" {
			return part(kinds[l[0]], l[1], "", split(l[3:]))
		}
		return part(kinds[l[0]], l[1], "", split(append([]string{l[0]}, l[2:]...)))
	}
	for _, word := range []string{"->", "or", "and"} {
		if at := outside(l, word, word == "->"); at >= 0 {
			return part(kinds[word], "", "", split(l[:at]), split(l[at+1:]))
		}
	}
	switch {
	case l[0] == "not":
		return not(split(l[1:]))
	case l[0] == "(":
		return split(l[1 : len(l)-1])
	case len(l) == 1:
		return part(kinds[l[0]], "", "")
	}
	return part(kinds[l[1]], l[0], l[2])
}

// outside answers where a word stands within no brackets, first or last; -1, if nowhere.
func outside(l []string, word string, first bool) int {
	found, open := -1, 0
	for at, text := range l {
		switch text {
		case "(":
			open++
		case ")":
			open--
		case word:
			if open == 0 && (found < 0 || !first) {
				found = at
			}
		}
	}
	return found
}

// wantText fills the chapter's forms.
func wantText(f api.Formula) string {
	form := map[int]string{
		api.FTrue: "true", api.FFalse: "false", api.FNear: "A ~ B", api.FSame: "A = B", api.FIn: "A in B", api.FNot: "not 0",
		api.FAnd: "(0 and 1)", api.FOr: "(0 or 1)", api.FThen: "(0 -> 1)", api.FAll: "(all A: 0)", api.FSome: "(some A: 0)",
	}[f.Kind]
	l := []string{"A", f.A, "B", f.B}
	for i, kid := range f.Kids {
		l = append(l, fmt.Sprint(i), wantText(kid))
	}
	return strings.NewReplacer(l...).Replace(form)
}

func wantPrint(f api.Formula) (string, api.Fault) {
	if f := wantCheck(f); f != (api.Fault{}) {
		return "", f
	}
	s := wantText(f)
	if len(s) > api.MaxText {
		return "", fault(api.ErrMany, 0)
	}
	return s, api.Fault{}
}

// freeIn answers the free names as a set: those of the Kids, less what is bound.
func freeIn(f api.Formula) map[string]bool {
	out := map[string]bool{}
	if f.Kind == api.FNear || f.Kind == api.FSame || f.Kind == api.FIn {
		out[f.A], out[f.B] = true, true
	}
	for _, kid := range f.Kids {
		for name := range freeIn(kid) {
			out[name] = true
		}
	}
	if f.Kind == api.FAll || f.Kind == api.FSome {
		delete(out, f.A)
	}
	return out
}

func wantFree(f api.Formula) ([]string, api.Fault) {
	if f := wantCheck(f); f != (api.Fault{}) {
		return nil, f
	}
	var out []string
	for name := range freeIn(f) {
		out = append(out, name)
	}
	slices.SortFunc(out, func(a, b string) int { return slices.Compare([]byte(a), []byte(b)) })
	return out, api.Fault{}
}

// mostBound answers how many names, and how many names of sets, stand about some part, at most.
func mostBound(f api.Formula) (names, sets int) {
	var look func(f api.Formula, about []string)
	look = func(f api.Formula, about []string) {
		great := 0
		for _, name := range about {
			if kindOfName(name) == "set" {
				great++
			}
		}
		names, sets = max(names, len(about)), max(sets, great)
		for _, kid := range f.Kids {
			if f.A != "" {
				look(kid, append(slices.Clone(about), f.A))
			} else {
				look(kid, about)
			}
		}
	}
	look(f, nil)
	return names, sets
}

func wantAskFault(g api.Graph, f api.Formula) api.Fault {
	if f := wantGraph(g); f != (api.Fault{}) {
		return f
	}
	free, f1 := wantFree(f)
	if f1 != (api.Fault{}) {
		return f1
	}
	for at, name := range free {
		if kindOfName(name) == "set" {
			return fault(api.ErrName, at)
		}
	}
	names, sets := mostBound(f)
	if g.N > 8 || len(free)+names > 5 || sets > 2 {
		return fault(api.ErrMany, 0)
	}
	return api.Fault{}
}

// wantGraph is what chapter 1 says of a graph.
func wantGraph(g api.Graph) api.Fault {
	if g.N < 0 || g.N > api.MaxNodes || len(g.Edges) > api.MaxEdges {
		return fault(api.ErrMany, 0)
	}
	for at, e := range g.Edges {
		switch {
		case min(e[0], e[1]) < 0 || max(e[0], e[1]) >= g.N:
			return fault(api.ErrRange, at)
		case e[0] == e[1]:
			return fault(api.ErrLoop, at)
		case slices.Contains(g.Edges[:at], e) || slices.Contains(g.Edges[:at], [2]int{e[1], e[0]}):
			return fault(api.ErrTwice, at)
		}
	}
	return api.Fault{}
}

// thing is a name, and what it is: a node, or a set as bools.
type thing struct {
	name string
	node int
	set  []bool
}

// teller tries all that names can be, one by one.
type teller struct {
	near  [][]bool
	known []thing
}

func tellerOf(g api.Graph) *teller {
	t := &teller{near: make([][]bool, g.N)}
	for v := range t.near {
		t.near[v] = make([]bool, g.N)
	}
	for _, e := range g.Edges {
		t.near[e[0]][e[1]], t.near[e[1]][e[0]] = true, true
	}
	return t
}

// lookUp finds the thing of a name that was met last.
func (t *teller) lookUp(name string) thing {
	for _, k := range slices.Backward(t.known) {
		if k.name == name {
			return k
		}
	}
	panic("no such name: " + name)
}

// things are all that a name can be.
func (t *teller) things(name string) []thing {
	n := len(t.near)
	var out []thing
	if kindOfName(name) == "node" {
		for v := range n {
			out = append(out, thing{name: name, node: v})
		}
		return out
	}
	for number := range 1 << n {
		set := make([]bool, n)
		for v := range set {
			set[v] = number>>v&1 == 1
		}
		out = append(out, thing{name: name, set: set})
	}
	return out
}

func (t *teller) holds(f api.Formula) bool {
	switch f.Kind {
	case api.FTrue:
		return true
	case api.FNear:
		return t.near[t.lookUp(f.A).node][t.lookUp(f.B).node]
	case api.FSame:
		return t.lookUp(f.A).node == t.lookUp(f.B).node
	case api.FIn:
		return t.lookUp(f.B).set[t.lookUp(f.A).node]
	case api.FNot:
		return !t.holds(f.Kids[0])
	case api.FAnd:
		return t.holds(f.Kids[0]) && t.holds(f.Kids[1])
	case api.FOr:
		return t.holds(f.Kids[0]) || t.holds(f.Kids[1])
	case api.FThen:
		return !t.holds(f.Kids[0]) || t.holds(f.Kids[1])
	case api.FAll:
		return !t.finds(f.A, f.Kids[0], false)
	case api.FSome:
		return t.finds(f.A, f.Kids[0], true)
	}
	return false
}

// finds looks for something that a name can be so that f holds, or does not.
func (t *teller) finds(name string, f api.Formula, wanted bool) bool {
	for _, k := range t.things(name) {
		t.known = append(t.known, k)
		holds := t.holds(f)
		t.known = t.known[:len(t.known)-1]
		if holds == wanted {
			return true
		}
	}
	return false
}

func wantAsk(g api.Graph, f api.Formula) ([][]int, api.Fault) {
	if f := wantAskFault(g, f); f != (api.Fault{}) {
		return nil, f
	}
	t := tellerOf(g)
	free, _ := wantFree(f)
	var out [][]int
	var try func(way []int)
	try = func(way []int) {
		if len(way) == len(free) {
			if t.holds(f) {
				out = append(out, slices.Clone(way))
			}
			return
		}
		for v := range g.N {
			t.known = append(t.known, thing{name: free[len(way)], node: v})
			try(append(way, v))
			t.known = t.known[:len(t.known)-1]
		}
	}
	try(nil)
	return out, api.Fault{}
}
