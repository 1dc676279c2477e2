package code

import (
	"pointsman/api"
	"pointsman/upd"
)

// stmtsRight tells whether statements, and none of them too deep, are right.
func stmtsRight(l []api.Stmt, deep int) bool {
	for _, s := range l {
		if deep > mostDeep || !stmtRight(s, deep) {
			return false
		}
	}
	return true
}

func stmtRight(s api.Stmt, deep int) bool {
	if s.Op == stmtIf {
		return s.N == 0 && s.M == 0 && condRight(s.If, deep+1) && stmtsRight(s.Then, deep+1) && stmtsRight(s.Else, deep+1)
	}
	bare := s.If.Op == 0 && s.If.N == 0 && s.If.Prefix == api.Prefix{} && len(s.If.L) == 0
	return bare && len(s.Then) == 0 && len(s.Else) == 0 && doesRight(s.Op, s.N, s.M)
}

// doesRight tells whether a statement without a condition may have such numbers.
func doesRight(op, n, m int) bool {
	switch op {
	case stmtPrepend:
		return n >= 1 && n <= mostNumber && m >= 1 && m <= mostTimes
	case stmtLocal, stmtMed, stmtAdd, stmtDrop:
		return isNumber(n) && m == 0
	case stmtAccept, stmtReject, stmtClear:
		return n == 0 && m == 0
	}
	return false
}

func condRight(c api.Cond, deep int) bool {
	if deep > mostDeep {
		return false
	}
	if isTest(c.Op) {
		return len(c.L) == 0 && testRight(c.Op, c.N, c.Prefix)
	}
	if c.N != 0 || c.Prefix != (api.Prefix{}) {
		return false
	}
	switch c.Op {
	case condAnd, condOr:
		if len(c.L) < 2 {
			return false
		}
	case condNot:
		if len(c.L) != 1 {
			return false
		}
	default:
		return false
	}
	for _, m := range c.L {
		if !condRight(m, deep+1) {
			return false
		}
	}
	return true
}

// testRight tells whether a test may have such a number and such a prefix.
func testRight(op, n int, p api.Prefix) bool {
	switch op {
	case condIn:
		return upd.Right(p) && n >= p.Len && n <= mostLen
	case condIs:
		return upd.Right(p) && n == 0
	case condInner:
		return p == api.Prefix{} && n >= 0 && n <= mostOrigin
	}
	return p == api.Prefix{} && isNumber(n)
}

// stepRight tells whether a step at a place of a table of that length may be.
func stepRight(s api.Step, at, length int) bool {
	there := func(place int) bool { return place > at && place < length }
	if isTest(s.Op) {
		return s.M == 0 && testRight(s.Op, s.N, s.Prefix) && there(s.X) && there(s.Y)
	}
	if s.Y != 0 || s.Prefix != (api.Prefix{}) {
		return false
	}
	switch {
	case s.Op == stepJump:
		return s.N == 0 && s.M == 0 && there(s.X)
	case ends(s.Op):
		return s.N == 0 && s.M == 0 && s.X == 0
	}
	return s.Op > stepReject && doesRight(s.Op-greater, s.N, s.M) && there(s.X)
}

func isTest(op int) bool { return op >= condIn && op <= condLast }

func ends(op int) bool { return op == stepAccept || op == stepReject }

func isNumber(n int) bool { return n >= 0 && n <= mostNumber }
