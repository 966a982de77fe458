package sniff_test

import (
	"strings"
	"testing"

	"beadle/api"
	"beadle/sniff"
)

// P1.4

type prescanCase struct {
	data, want string
	ok         bool
}

func checkPrescan(t *testing.T, tests []prescanCase) {
	t.Helper()
	for _, c := range tests {
		if s, ok := sniff.Prescan(c.data); s != c.want || ok != c.ok {
			t.Errorf("Prescan(%q): %q %v, want %q %v", c.data, s, ok, c.want, c.ok)
		}
	}
}

func TestPrescanReadsMeta(t *testing.T) {
	checkPrescan(t, []prescanCase{
		{"<meta charset=utf-8>", "utf-8", true},
		{"<META\tCHARSET='UTF-8'>", "utf-8", true},
		{"<meta/charset=x>", "x", true},
		{"<meta\fcharset=x>", "x", true},
		{"a<b<meta charset=x>", "", false},
		{"a< <meta charset=x>", "x", true},
		{"<<meta charset=x>", "x", true},
		{"<meta charset=\" x \">", " x ", true},
		{"<meta charset=x charset=y>", "x", true},
		{"<meta a=b charset=x c>", "x", true},
		{"<meta charset=x><meta charset=y>", "x", true},
		{"<meta><meta charset=x>", "x", true},
		{"<meta a><meta charset=x>", "x", true},
		{"<meta charset=x ", "x", true},
		{"<meta charset=x a=\"", "x", true},
		{"<meta charset=x", "", false},
		{"<meta charset='x", "", false},
		{"<meta charset>", "", false},
		{"<meta charset=>", "", false},
		{"<meta charset=''>", "", false},
		{"<meta charset=' \t'>", "", false},
		{"<meta charset=''><meta charset=x>", "x", true},
		{"<meta charset='' charset=x>", "", false},
		{"<metacharset=x>", "", false},
		{"<meta\vcharset=x>", "", false},
		{"<metas charset=x>", "", false},
		{"</meta charset=x>", "", false},
		{"< meta charset=x>", "", false},
		{"<meta", "", false},
		{"", "", false},
	})
}

func TestPrescanReadsContent(t *testing.T) {
	const pragma = "http-equiv=content-type"
	checkPrescan(t, []prescanCase{
		{"<meta " + pragma + " content='text/html; charset=x'>", "x", true},
		{"<meta content='text/html; charset=x' " + pragma + ">", "x", true},
		{"<meta HTTP-EQUIV=Content-Type content='CHARSET=X'>", "x", true},
		{"<meta content='charset=x'>", "", false},
		{"<meta content='charset=x' http-equiv=refresh>", "", false},
		{"<meta content='charset=x' http-equiv=' content-type'>", "", false},
		{"<meta http-equiv=refresh " + pragma + " content='charset=x'>", "", false},
		{"<meta " + pragma + " http-equiv=refresh content='charset=x'>", "x", true},
		{"<meta " + pragma + " content=x content='charset=x'>", "", false},
		{"<meta " + pragma + " content='charset=x' content='charset=y'>", "x", true},
		{"<meta " + pragma + " content=text/html>", "", false},
		{"<meta " + pragma + " content='charset=\"\"'>", "", false},
		{"<meta " + pragma + " content='charset=\" \"'>", "", false},
		{"<meta " + pragma + ">", "", false},
	})
}

func TestPrescanHoldsCharsetAgainstContent(t *testing.T) {
	const pragma = "http-equiv=content-type"
	checkPrescan(t, []prescanCase{
		{"<meta charset=x content='charset=y'>", "x", true},
		{"<meta content='charset=y' charset=x>", "x", true},
		{"<meta " + pragma + " content='charset=y' charset=x>", "x", true},
		{"<meta " + pragma + " charset=x content='charset=y'>", "x", true},
		{"<meta " + pragma + " charset='' content='charset=y'>", "y", true},
		{"<meta charset='' content='charset=y'>", "", false},
		{"<meta " + pragma + " content='charset=y' charset=''>", "", false},
		{"<meta " + pragma + " charset=' ' content='charset=y'>", "", false},
		{"<meta content='charset=\"\"' charset=x>", "x", true},
	})
}

func TestPrescanPassesOverComments(t *testing.T) {
	checkPrescan(t, []prescanCase{
		{"<!--<meta charset=x>-->", "", false},
		{"<!-- > <meta charset=x> --><meta charset=y>", "y", true},
		{"<!--><meta charset=x>", "x", true},
		{"<!---><meta charset=x>", "x", true},
		{"<!----><meta charset=x>", "x", true},
		{"<!-- --!><meta charset=x>", "", false},
		{"<!-- <meta charset=x>", "", false},
		{"<!-- -- > <meta charset=x> --", "", false},
		{"<!--", "", false},
	})
}

func TestPrescanPassesOverTags(t *testing.T) {
	checkPrescan(t, []prescanCase{
		{"<p><meta charset=x>", "x", true},
		{"</p><meta charset=x>", "x", true},
		{"<p a='<meta charset=x>'>", "", false},
		{"<P a='>'><meta charset=x>", "x", true},
		{"<p a='><meta charset=x>'>", "", false},
		{"</p a='><meta charset=x>'>", "", false},
		{"<Z a='><meta charset=x>'><meta charset=y>", "y", true},
		{"</p a='<meta charset=x>'>", "", false},
		{"<z\na=\"<meta charset=x>\"><meta charset=y>", "y", true},
		{"<p/a='><meta charset=x>'>", "x", true},
		{"<p <meta charset=x>", "", false},
		{"<p a='", "", false},
		{"<p", "", false},
		{"<p\xff<meta charset=x>", "", false},
		{"<\xe4 <meta charset=x>", "x", true},
	})
}

func TestPrescanPassesOverTheRest(t *testing.T) {
	checkPrescan(t, []prescanCase{
		{"<!DOCTYPE html><meta charset=x>", "x", true},
		{"<!a '<meta charset=x>'>", "", false},
		{"<!- <meta charset=x> --><meta charset=y>", "y", true},
		{"<?xml <meta charset=x>?><meta charset=y>", "y", true},
		{"</ <meta charset=x><meta charset=y>", "y", true},
		{"</1 a='>'<meta charset=x>", "x", true},
		{"</><meta charset=x>", "x", true},
		{"<!><meta charset=x>", "x", true},
		{"<1 a='<meta charset=x>", "x", true},
		{"<//p a='><meta charset=x>", "x", true},
		{"<!", "", false},
		{"</", "", false},
		{"<?", "", false},
		{"<", "", false},
	})
}

func TestPrescanLooksAtTheFirstBytesAlone(t *testing.T) {
	const tag = "<meta charset=x>"
	for room, want := range map[int]bool{len(tag): true, len(tag) - 1: false, 6: false, 5: false, 0: false} {
		data := strings.Repeat(" ", api.MaxPre-room) + tag
		if _, ok := sniff.Prescan(data); ok != want {
			t.Errorf("%d bytes of the tag within the first: %v", room, ok)
		}
	}
	comment := "<!--" + strings.Repeat(" ", api.MaxPre) + "--><meta charset=x>"
	if s, ok := sniff.Prescan(comment); s != "" || ok {
		t.Errorf("behind a long comment: %q %v", s, ok)
	}
	cut := "<meta charset=x a=\"" + strings.Repeat(" ", api.MaxPre) + "\" charset=y>"
	if s, ok := sniff.Prescan(cut); s != "x" || !ok {
		t.Errorf("a tag that is cut: %q %v", s, ok)
	}
}

// P1 of the document: no bytes make a call panic or go on for ever.

func FuzzSniff(f *testing.F) {
	for _, s := range []string{"", "<meta http-equiv=content-type content='charset=x'>", "<!--><p a=\"b'><?x></", "charset = \"x"} {
		f.Add(s, len(s)/2)
	}
	f.Fuzz(func(t *testing.T, data string, at int) {
		sniff.Label(data)
		sniff.Charset(data)
		sniff.Choose(data, "")
		if a, end, ok := sniff.Attribute(data, at); end < 0 || end > len(data) || ok && end <= at || !ok && a != (api.Attr{}) {
			t.Errorf("Attribute(%q, %d): %q %d %v", data, at, a, end, ok)
		}
		if name, ok := sniff.Prescan(data); !ok && name != "" {
			t.Errorf("Prescan(%q): %q", data, name)
		}
	})
}

func TestSniffTakesAnyFewBytes(t *testing.T) {
	const signs = "<>!-/? =\"'aM\xff"
	var all func(prefix string, more int)
	all = func(prefix string, more int) {
		sniff.Prescan(prefix)
		sniff.Prescan("<meta " + prefix)
		for at := -1; at <= len(prefix)+1; at++ {
			a, end, ok := sniff.Attribute(prefix, at)
			if end < 0 || end > len(prefix) || ok && (end <= at || a.Name == "") || !ok && a != (api.Attr{}) {
				t.Errorf("Attribute(%q, %d): %q %d %v", prefix, at, a, end, ok)
			}
		}
		if more > 0 {
			for i := range len(signs) {
				all(prefix+signs[i:i+1], more-1)
			}
		}
	}
	all("", 4)
}
