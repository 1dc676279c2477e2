package script

import (
	"encoding/hex"
	"fmt"
	"strings"
	"testing"

	"pointsman/api"
	"pointsman/arp"
	"pointsman/eth"
)

func must(t *testing.T, what string, got, want any) {
	t.Helper()
	if g, w := fmt.Sprintf("%+v", got), fmt.Sprintf("%+v", want); g != w {
		t.Errorf("%s: %s, want %s", what, g, w)
	}
}

const (
	little = "system 65000; router 10.0.0.1;"
	dials  = "system 65000; router 10.0.0.1; retry 5; peer a 10.0.0.2 as 65001;"
	waits  = "system 65000; router 10.0.0.1; retry 5; peer a 10.0.0.2 as 65001 waits;"
)

func question() []byte {
	b, _ := arp.Build(arp.Message{Kind: 1, FromMac: api.Mac{2, 0, 0, 0, 1, 0}, From: 0x0a000002, To: 0x0a000001})
	f, _ := eth.Build(eth.Frame{To: eth.Everybody(), From: api.Mac{2, 0, 0, 0, 1, 0}, Kind: 0x0806, Data: b})
	return f
}

func play1(t *testing.T, config string, lines ...string) []string {
	t.Helper()
	s, line, e := Run(config, strings.Join(lines, "\n"))
	must(t, "Run", []any{line, e}, []any{0, api.OK})
	return Lines(s)
}

func TestExample(t *testing.T) {
	s, line, e := Run(little, "now\ntick 2\ntake\n")
	must(t, "the example", []any{s, line, e}, []any{"now 0\nnow 2\nnone\n", 0, api.OK})
}

// The document's examples of the whole, 1 to 7.
func TestWhole(t *testing.T) {
	must(t, "1", play1(t, waits, "state 0", "take"), []string{"state 2", "none"})
	ask := "frame ffffffffffff020000000001080600010800060400010200000000010a0000010000000000000a000002" + strings.Repeat("00", 18)
	must(t, "2", play1(t, dials, "take", "state 0"), []string{ask, "state 1"})
	must(t, "3", play1(t, waits, "stop 0", "state 0", "stop 9"), []string{"ok", "state 0", "error 5"})
	must(t, "4", play1(t, waits, "load system", "load "+waits, "load "+strings.Replace(waits, "65000", "7", 1), "load system 1; policy p { x }", "load !", "load  "), []string{"error 250 at 1", "ok", "error 2", "error 250 at 1", "error 240 at 1", "error 2"})
	must(t, "5", play1(t, little, "tick 3", "now"), []string{"now 3", "now 3"})
	_, line, e := Run(little, "now\ntick 0\n")
	must(t, "5", []any{line, e}, []any{2, api.ErrScript})
	l := play1(t, little, "frame "+hex.EncodeToString(question()), "poll", "take", "take")
	must(t, "6", []any{l[:2], len(l[2]), l[2][:42], l[3]}, []any{[]string{"ok", "polled 1"}, 6 + 120, "frame 020000000100020000000001080600010800", "none"})
	frames := make([]string, 17)
	for i := range frames {
		frames[i] = "frame 00"
	}
	l = play1(t, little, append(frames, "lost")...)
	must(t, "7", []any{l[0], l[15], l[16], l[17]}, []any{"ok", "ok", "error 4", "lost 1 0"})
	must(t, "others", play1(t, waits, "again 0", "again 1", "dump 0", "dump 5", "counts 0 1", "counts 9 999999999", "state 77", "frame "+strings.Repeat("00", 1515)), []string{"ok", "error 5", "dump", "dump", "counts 0 0", "counts 0 0", "state 0", "error 3"})
}

// Promise 37.1.
func TestCheck(t *testing.T) {
	for _, s := range []string{"", "poll", "poll\n", "take\nlost\nnow\n", "frame 0aff", "tick 1", "tick 1000", "stop 0", "again 999999999", "load x", "load  ", "dump 7", "state 3", "counts 1 2"} {
		line, e := Check(s)
		must(t, fmt.Sprintf("Check(%q)", s), []any{line, e}, []any{0, api.OK})
	}
	for _, s := range []string{"\n", " ", "poll ", " poll", "poll 1", "Poll", "poll\r", "frame", "frame ", "frame 0", "frame 0A", "frame 0g", "frame 00 00", "tick", "tick 0", "tick 1001", "tick 01", "tick 1 ", "tick -1", "tick  1", "stop", "stop x", "stop 1234567890", "stop 00", "load", "load ", "dump", "state 1 2", "counts 1", "counts 1 2 3", "counts  1", "counts 1  2", "counts x 1", "x", "again", "take 1", "now 1", "lost 1", "poll\n"} {
		line, e := Check("now\n" + s + "\nnow")
		want, at := api.ErrScript, 2
		if s == "poll\n" {
			at = 3
		}
		must(t, fmt.Sprintf("Check(%q)", s), []any{line, e}, []any{at, want})
	}
	for _, c := range []struct {
		s string
		e api.Errno
	}{
		{strings.Repeat("now\n", 2000), api.OK}, {strings.Repeat("now\n", 1999) + "now", api.OK}, {strings.Repeat("now\n", 2000) + "x", api.ErrLong}, {strings.Repeat("\n", 2001), api.ErrLong},
		{"load " + strings.Repeat("x", api.MaxText-5), api.OK}, {"load " + strings.Repeat("x", api.MaxText-4), api.ErrLong},
	} {
		line, e := Check(c.s)
		must(t, fmt.Sprintf("Check(%.20q)", c.s), []any{line, e}, []any{0, c.e})
	}
}

// Promise 37.2.
func TestRun(t *testing.T) {
	for _, c := range []struct {
		config, text string
		line         int
		e            api.Errno
	}{
		{"system", "\n", 1, api.ErrScript}, {"\nsystem", "now", 0, api.ErrGram}, {"!", "now", 0, api.ErrText}, {strings.Repeat(" ", api.MaxText+1), "now", 0, api.ErrLong}, {"", "now", 0, api.ErrArg}, {"system", strings.Repeat("x", api.MaxText+1), 0, api.ErrLong},
		{little + "policy p {" + strings.Repeat("accept;", 2000) + strings.Repeat("if path has 1 or path has 2 {}", 1), "", 0, api.ErrGram},
	} {
		s, line, e := Run(c.config, c.text)
		must(t, fmt.Sprintf("Run(%.20q)", c.config), []any{s, line, e}, []any{"", c.line, c.e})
	}
	s, line, e := Run(little, "")
	must(t, "no lines", []any{s, line, e}, []any{"", 0, api.OK})
	must(t, "Lines", []any{len(Lines("")), Lines("a"), Lines("a\nb\n"), Lines("\n"), Lines("a\n\nb")}, []any{0, []string{"a"}, []string{"a", "b"}, []string{""}, []string{"a", "", "b"}})
}

// Promises 37.3 and 37.4.
func TestSameFurther(t *testing.T) {
	lines := []string{"frame " + hex.EncodeToString(question()), "poll", "take", "take", "tick 7", "take", "stop 0", "take", "tick 100", "lost", "state 0", "dump 0", "counts 0 1"}
	before := ""
	for i := range lines {
		text := strings.Join(lines[:i+1], "\n") + "\n"
		a, _, _ := Run(dials, text)
		b, _, _ := Run(dials, text)
		must(t, "the same", b, a)
		if !strings.HasPrefix(a, before) || len(a) == len(before) {
			t.Fatalf("%q does not go on from %q", a, before)
		}
		before = a
	}
}
