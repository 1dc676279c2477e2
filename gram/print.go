package gram

import (
	"strconv"
	"strings"

	"pointsman/api"
	"pointsman/octet"
	"pointsman/upd"
)

// printer has the words so far.
type printer struct {
	words []string
}

// Print gives a text that is read as the configuration. Whether one is read so is seen by reading it.
func Print(s api.Setup) (string, api.Errno) {
	if Check(s) != api.OK {
		return "", api.ErrArg
	}
	var w printer
	w.add("system", number(int(s.AS)), endItem, "router", octet.Text(uint32(s.Router)), endItem, "hold", number(s.Hold), endItem, "retry", number(s.Retry), endItem)
	w.some(s.Graceful != 0, "graceful", number(s.Graceful), endItem)
	for _, p := range s.Policies {
		w.add("policy", p.Name)
		w.block(p.L)
	}
	for _, p := range s.Peers {
		w.add("peer", p.Name, octet.Text(uint32(p.Addr)), "as", number(int(p.AS)))
		w.some(p.Waits, "waits")
		w.some(p.Max != 0, "max", number(p.Max))
		w.some(p.In != "", wordIn, p.In)
		w.some(p.Out != "", "out", p.Out)
		w.add(endItem)
	}
	text := strings.Join(w.words, " ")
	back, _, e := Parse(text)
	if e != api.OK || !sameSetup(back, s) {
		return "", api.ErrArg
	}
	return text, api.OK
}

// add adds words.
func (w *printer) add(words ...string) { w.words = append(w.words, words...) }

// some adds words, if they are to stand.
func (w *printer) some(stand bool, words ...string) {
	if stand {
		w.add(words...)
	}
}

func (w *printer) block(l []api.Stmt) {
	w.add(opening)
	for _, s := range l {
		w.statement(s)
	}
	w.add(closing)
}

func (w *printer) statement(s api.Stmt) {
	switch s.Op {
	case stmtIf:
		w.add(wordIf)
		w.cond(s.If)
		w.block(s.Then)
		if len(s.Else) > 0 {
			w.add(wordElse)
			w.block(s.Else)
		}
		return
	case stmtAccept:
		w.add("accept")
	case stmtReject:
		w.add("reject")
	case stmtPrepend:
		w.add("prepend", number(s.N), number(s.M))
	case stmtLocal:
		w.add("local", number(s.N))
	case stmtMed:
		w.add("med", number(s.N))
	case stmtAdd:
		w.add("add", community(s.N))
	case stmtDrop:
		w.add("drop", community(s.N))
	case stmtClear:
		w.add("clear")
	}
	w.add(endItem)
}

func (w *printer) cond(c api.Cond) {
	switch c.Op {
	case condAnd, condOr:
		w.members(c)
	case condNot:
		w.add(wordNot)
		w.members(c)
	case condIn:
		w.add("prefix", wordIn, upd.Text(c.Prefix), wordLe, number(c.N))
	case condIs:
		w.add("prefix", "is", upd.Text(c.Prefix))
	case condHas:
		w.add("path", "has", number(c.N))
	case condFrom:
		w.add("path", "from", number(c.N))
	case condOrigin:
		w.add("path", "origin", number(c.N))
	case condLonger:
		w.add("path", "longer", number(c.N))
	case condCommunity:
		w.add("community", community(c.N))
	case condInner:
		w.add("origin", origin(c.N))
	case condMed:
		w.add("med", "above", number(c.N))
	}
}

// members prints a condition's members, in parentheses where they bind less than it.
func (w *printer) members(c api.Cond) {
	word := wordAnd
	if c.Op == condOr {
		word = wordOr
	}
	for i, m := range c.L {
		w.some(i > 0, word)
		if m.Op == condOr || m.Op == condAnd && c.Op != condOr {
			w.add(openParen)
			w.cond(m)
			w.add(endParen)
		} else {
			w.cond(m)
		}
	}
}

func number(n int) string { return strconv.Itoa(n) }

func community(n int) string { return number(n>>16) + ":" + number(n&0xffff) }

// origin is an origin's word; another one has none, and is not read.
func origin(n int) string {
	switch n {
	case 0:
		return "inner"
	case 1:
		return "outer"
	case 2:
		return "unknown"
	}
	return ""
}
