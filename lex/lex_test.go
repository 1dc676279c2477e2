package lex

import (
	"fmt"
	"math/rand"
	"strings"
	"testing"

	"pointsman/api"
)

func must(t *testing.T, what string, got, want any) {
	t.Helper()
	if g, w := fmt.Sprintf("%+v", got), fmt.Sprintf("%+v", want); g != w {
		t.Errorf("%s: %s, want %s", what, g, w)
	}
}

// told is what Split answers, shortly: kinds, texts, numbers, prefixes and lines.
func told(l []api.Token, line int, e api.Errno) string {
	s := ""
	for _, x := range l {
		s += fmt.Sprintf("%d %s %d", x.Kind, x.Text, x.N)
		if x.Prefix != (api.Prefix{}) {
			s += fmt.Sprint(" ", x.Prefix)
		}
		s += fmt.Sprintf(" @%d; ", x.Line)
	}
	return s + fmt.Sprint(line, " ", int(e))
}

func TestExample(t *testing.T) {
	must(t, "the example", told(Split("peer a 10.0.0.2;")), "1 peer 0 @1; 1 a 0 @1; 3 10.0.0.2 167772162 @1; 6 ; 0 @1; 0 0")
}

// Promise 24.1.
func TestSplit(t *testing.T) {
	for _, c := range []struct{ text, want string }{
		{"", "0 0"}, {" \t\n\n # x\n#", "0 0"}, {"a#b\nc", "1 a 0 @1; 1 c 0 @2; 0 0"}, {"{}(a);", "6 { 0 @1; 6 } 0 @1; 6 ( 0 @1; 1 a 0 @1; 6 ) 0 @1; 6 ; 0 @1; 0 0"},
		{"0 4294967295", "2 0 0 @1; 2 4294967295 4294967295 @1; 0 0"}, {"4294967296", "1 240"}, {"00", "1 240"}, {"99999999999999999999999", "1 240"},
		{"\n1.2.3", "2 240"}, {".", "1 240"}, {"255.255.255.255", "3 255.255.255.255 4294967295 @1; 0 0"},
		{"10.0.0.0/8", "4 10.0.0.0/8 0 {167772160 8} @1; 0 0"}, {"10.0.0.1/8", "1 240"}, {"a/b", "1 240"}, {"/", "1 240"}, {"1:2/3", "1 240"},
		{"1:2", "5 1:2 65538 @1; 0 0"}, {"65535:65535", "5 65535:65535 4294967295 @1; 0 0"}, {"65536:1", "1 240"}, {"1:65536", "1 240"}, {"01:2", "1 240"}, {"1:2:3", "1 240"}, {":", "1 240"}, {"1:", "1 240"}, {"a:1", "1 240"}, {"1.1:2", "1 240"},
		{"a_-9Z", "1 a_-9Z 0 @1; 0 0"}, {"_a", "1 240"}, {"-", "1 240"}, {"9a", "1 240"}, {"a.b", "1 240"}, {strings.Repeat("x", 32), "1 " + strings.Repeat("x", 32) + " 0 @1; 0 0"}, {strings.Repeat("x", 33), "1 240"},
		{"a!", "1 240"}, {"a\n\n\"", "3 240"}, {"a\r", "1 240"}, {"# \x7f", "1 240"}, {"a\n# \x00\n", "2 240"}, {"\xff", "1 240"}, {"#\tx", "0 0"}, {"a,b", "1 240"},
	} {
		must(t, fmt.Sprintf("Split(%q)", c.text), told(Split(c.text)), c.want)
	}
	must(t, "too long", told(Split(strings.Repeat("!", api.MaxText+1))), "0 3")
	l, line, e := Split(strings.Repeat(" ", api.MaxText))
	must(t, "as long as may be", []any{len(l), line, e}, []any{0, 0, api.OK})
	l, line, e = Split(strings.Repeat("a\n", api.MaxItems))
	must(t, "as many as may be", []any{len(l), line, e}, []any{api.MaxItems, 0, api.OK})
	must(t, "one more", told(Split(strings.Repeat("a\n", api.MaxItems)+";\n!")), "4097 3")
	must(t, "one more, that is none", told(Split(strings.Repeat("a\n", api.MaxItems)+"!")), "4097 240")
}

// Promises 24.2 to 24.4.
func TestJoined(t *testing.T) {
	must(t, "Join", []string{Join(nil), Join([]api.Token{{Text: "a"}, {Text: "b c"}})}, []string{"", "a b c"})
	r := rand.New(rand.NewSource(1))
	words := []string{"{", "}", "(", ")", ";", "peer", "a-b", "12", "1.2.3.4", "10.0.0.0/8", "7:8"}
	blanks := []string{" ", "\t", "\n", " # x {;\n", "\n\n"}
	for range 300 {
		text, bare := "", ""
		n := r.Intn(20)
		for range n {
			w := words[r.Intn(len(words))]
			text += blanks[r.Intn(len(blanks))] + w
			bare += " " + w
		}
		l, _, e := Split(text)
		must(t, "Split", []any{len(l), e}, []any{n, api.OK})
		want := told(Split(bare))
		must(t, "joined", told(Split(Join(l))), want)
		for i := range l {
			l[i].Line = 1
		}
		must(t, "but lines", told(l, 0, api.OK), want)
	}
}
