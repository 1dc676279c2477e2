package gram

import (
	"slices"

	"pointsman/api"
)

const (
	mostHold     = 65535
	mostRetry    = 100000
	mostGraceful = 4095
	mostPolicies = 32
	mostTimes    = 10
)

// Check tells whether a configuration is right.
func Check(s api.Setup) api.Errno {
	switch {
	case s.AS == 0 || s.Router == 0:
	case s.Hold < 0 || s.Hold == 1 || s.Hold == 2 || s.Hold > mostHold:
	case s.Retry < 1 || s.Retry > mostRetry || s.Graceful < 0 || s.Graceful > mostGraceful:
	case len(s.Policies) > mostPolicies || len(s.Peers) > api.MaxPeers:
	case twice(s.Policies, func(a, b api.Policy) bool { return a.Name == b.Name }):
	case twice(s.Peers, func(a, b api.Peer) bool { return a.Name == b.Name || a.Addr == b.Addr }):
	case !every(s.Peers, func(p api.Peer) bool { return peerRight(s, p) }):
	case !every(s.Policies, func(p api.Policy) bool { return every(p.L, stmtRight) }):
	default:
		return api.OK
	}
	return api.ErrArg
}

// peerRight tells whether a peer of a configuration is right.
func peerRight(s api.Setup, p api.Peer) bool {
	has := func(name string) bool {
		return name == "" || slices.ContainsFunc(s.Policies, func(x api.Policy) bool { return x.Name == name })
	}
	return p.Addr != 0 && p.Addr != s.Router && p.AS != 0 && p.Max >= 0 && p.Max <= api.MaxItems && has(p.In) && has(p.Out)
}

func stmtRight(s api.Stmt) bool {
	if s.Op == stmtPrepend && (s.N == 0 || s.M < 1 || s.M > mostTimes) {
		return false
	}
	return condRight(s.If) && every(s.Then, stmtRight) && every(s.Else, stmtRight)
}

func condRight(c api.Cond) bool {
	if c.Op == condIn && (c.N < c.Prefix.Len || c.N > mostLen) {
		return false
	}
	return every(c.L, condRight)
}

// every tells whether all of a list are so.
func every[T any](l []T, is func(T) bool) bool {
	return !slices.ContainsFunc(l, func(x T) bool { return !is(x) })
}

// twice tells whether two of a list are the same.
func twice[T any](l []T, same func(a, b T) bool) bool {
	for i, a := range l {
		if slices.ContainsFunc(l[:i], func(b T) bool { return same(a, b) }) {
			return true
		}
	}
	return false
}

// equal tells whether two lists have the same members.
func equal[T any](a, b []T, same func(a, b T) bool) bool {
	return slices.EqualFunc(a, b, same)
}

// sameSetup tells whether both are the same configuration.
func sameSetup(a, b api.Setup) bool {
	return a.AS == b.AS && a.Router == b.Router && a.Hold == b.Hold && a.Retry == b.Retry && a.Graceful == b.Graceful &&
		slices.Equal(a.Peers, b.Peers) && equal(a.Policies, b.Policies, samePolicy)
}

func samePolicy(a, b api.Policy) bool { return a.Name == b.Name && equal(a.L, b.L, sameStmt) }

func sameStmt(a, b api.Stmt) bool {
	return a.Op == b.Op && a.N == b.N && a.M == b.M && sameCond(a.If, b.If) && equal(a.Then, b.Then, sameStmt) && equal(a.Else, b.Else, sameStmt)
}

func sameCond(a, b api.Cond) bool {
	return a.Op == b.Op && a.N == b.N && a.Prefix == b.Prefix && equal(a.L, b.L, sameCond)
}
