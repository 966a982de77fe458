package tree_test

import (
	"strings"
	"testing"

	"beadle/tree"
)

// P11.5: what is closed without anything being moved.
func TestAdoptionWithoutBlock(t *testing.T) {
	checkBodies(t, []row{
		{"<b>x</b>y", `b("x") "y"`, ""},
		{"<a>x</a>y", `a("x") "y"`, ""},
		{"<b>x<i>y</b>z", `b("x" i("y")) i("z")`, "misnested-formatting@8 unclosed-elements@13"},
		{"<b>x<span>y</b>z", `b("x" span("y")) "z"`, "misnested-formatting@11"},
		{"<b>x<option>y</b>z", `b("x" option("y")) "z"`, "misnested-formatting@13"},
		{"<i><b>x</b>y</i>z", `i(b("x") "y") "z"`, ""},
	})
}

// P11.5: the first of four that are alike isn't among the marks.
func TestAdoptionOfWhatIsNotMarked(t *testing.T) {
	checkBodies(t, []row{
		{"<b><b><b><b>x</b></b></b>y</b>z", `b(b(b(b("x"))) "y") "z"`, ""},
		{"<b><b><b><b></b></b></b><i></b>x", `b(b(b(b)) i) i("x")`, "unexpected-end-tag@27 unclosed-elements@32"},
		// It is popped, though there are marks of its name.
		{"<b><p><b><b><b></p></b>x", `b(p(b(b(b)))) b(b(b("x")))`, "unexpected-end-tag@15 unclosed-elements@24"},
	})
}

// P11.5: where there is no mark, or it isn't open, or isn't in scope.
func TestAdoptionOfNothing(t *testing.T) {
	checkBodies(t, []row{
		{"x</b>y", `"xy"`, "unexpected-end-tag@1"},
		{"x</a>y", `"xy"`, "unexpected-end-tag@1"},
		{"<span>x</b>y</span>", `span("xy")`, "unexpected-end-tag@7"},
		{"<p><b></p></b>x", `p(b) "x"`, "unexpected-end-tag@6 misnested-formatting@10"},
		{"<p><b><i></p></b>x", `p(b(i)) i("x")`, "unexpected-end-tag@9 misnested-formatting@13 unclosed-elements@18"},
		{"<p><b><b></p></b>x", `p(b(b)) b("x")`, "unexpected-end-tag@9 misnested-formatting@13 unclosed-elements@18"},
		{"<b><object></b>x</object>y", `b(object("x") "y")`, "unexpected-end-tag@11 unclosed-elements@26"},
		{"<b><table><tr><td></b>x", `b(table(tbody(tr(td("x")))))`, "unexpected-end-tag@18 unclosed-elements@23"},
		{"<b><table></b>x", `b("x" table)`, "unexpected-end-tag@10 misnested-formatting@10 unexpected-text-in-table@14 unclosed-elements@15"},
	})
}

// P11.5: blocks.
func TestAdoption(t *testing.T) {
	checkBodies(t, []row{
		{"<b>1<p>2</b>3", `b("1") p(b("2") "3")`, "misnested-formatting@8"},
		{"<b>1<p>2</b>3</p>4", `b("1") p(b("2") "3") "4"`, "misnested-formatting@8"},
		{"<a>1<div>2</a>3", `a("1") div(a("2") "3")`, "misnested-formatting@10 unclosed-elements@15"},
		{"<b k=1>1<p>2</b>3", `b[k="1"]("1") p(b[k="1"]("2") "3")`, "misnested-formatting@12"},
		{"<b><div><p>x</b>y", `b div(b p(b("x") "y"))`, "misnested-formatting@12 unclosed-elements@17"},
		{"<b><div>1<p>2</b>3</p>4", `b div(b("1") p(b("2") "3") "4")`, "misnested-formatting@13 unclosed-elements@23"},
		{"<section><b><p>x</b>y", `section(b p(b("x") "y"))`, "misnested-formatting@16 unclosed-elements@21"},
		{"<b>1<div>2<!--c--><br>3</b>4", `b("1") div(b("2" {c} br "3") "4")`, "misnested-formatting@23 unclosed-elements@28"},
	})
}

// P11.5: what stands between what is closed and the furthest block.
func TestAdoptionOfWhatIsBetween(t *testing.T) {
	checkBodies(t, []row{
		{"<b>1<i>2<p>3</b>4", `b("1" i("2")) i(p(b("3") "4"))`, "misnested-formatting@12 unclosed-elements@17"},
		{"<b>1<i>2<p>3</b>4</i>5", `b("1" i("2")) i p(i(b("3") "4") "5")`, "misnested-formatting@12 misnested-formatting@17"},
		{"<b>1<i k=2>2<p>3</b>4", `b("1" i[k="2"]("2")) i[k="2"](p(b("3") "4"))`, "misnested-formatting@16 unclosed-elements@21"},
		{"<b>1<span>2<p>3</b>4</span>5", `b("1" span("2")) p(b("3") "45")`, "misnested-formatting@15 unexpected-end-tag@20"},
		{"<b><i><p><u>x</b>y", `b(i) i(p(b(u("x")) u("y")))`, "misnested-formatting@13 unclosed-elements@18"},
		{"<b><i><u><p></b></i></u>x", `b(i(u)) i(u) u p(u(i(b)) "x")`, "misnested-formatting@12 misnested-formatting@16 misnested-formatting@20"},
	})
}

// P11.5: three are made anew; the further ones are taken away.
func TestAdoptionOfManyBetween(t *testing.T) {
	checkBodies(t, []row{
		{"<b><i><s><u><p>x</b>y", `b(i(s(u))) i(s(u(p(b("x") "y"))))`, "misnested-formatting@16 unclosed-elements@21"},
		{"<b><i><s><u><em><p>x</b>y", `b(i(s(u(em)))) s(u(em(p(b("x") "y"))))`, "misnested-formatting@20 unclosed-elements@25"},
		{"<b><tt><i><s><u><em><p>x</b>y", `b(tt(i(s(u(em))))) s(u(em(p(b("x") "y"))))`, "misnested-formatting@24 unclosed-elements@29"},
		{"<b><tt><i><s><u><em><p>x</b></p></em></u></s>y", `b(tt(i(s(u(em))))) s(u(em(p(b("x"))))) "y"`, "misnested-formatting@24"},
		// Those that aren't marked count too.
		{"<b><i><span><u><em><p>x</b>y", `b(i(span(u(em)))) u(em(p(b("x") "y")))`, "misnested-formatting@23 unclosed-elements@28"},
	})
}

// checkShape: what stands under body, where one thing is misnested.
func checkShape(t *testing.T, doc, want string) {
	t.Helper()
	d, _, wrong := tree.Build(runes(doctype+doc, 0), len(doctype+doc))
	if got := underBody(shape(d)); got != want {
		t.Errorf("%s\n got %s\nwant %s", doc, got, want)
	}
	if n := strings.Count(told(wrong), "misnested-formatting"); n != 1 {
		t.Errorf("%s: %s", doc, told(wrong))
	}
}

// P11.5: at most eight times; where none is left, what is closed stays open.
func TestRoundsOfAdoption(t *testing.T) {
	for n := 1; n <= 12; n++ {
		want := `b("x") "y"`
		if n >= 8 {
			want = "b(" + strings.Repeat("div(", n-8) + `"xy"` + strings.Repeat(")", n-8) + ")"
		}
		for range min(n, 8) {
			want = "b div(" + want + ")"
		}
		checkShape(t, "<b>"+strings.Repeat("<div>", n)+"x</b>y", want)
	}
}

// P11.5: where the last round lays what it closed among the marks shows by the order in which they are opened again.
func TestAdoptionLaysAmongTheMarks(t *testing.T) {
	rounds := strings.Repeat("<div>", 7)
	ahead := strings.Repeat("b div(", 7)
	behind := strings.Repeat(")", 6)
	for _, c := range []struct{ between, want string }{
		{"<i>", ahead + `b(i) i(div(b("x"))))` + behind + ` i(b("y"))`},
		{"<i><u>", ahead + `b(i(u)) i(u(div(b("x")))))` + behind + ` i(u(b("y")))`},
		{"<tt><i><s><u><em>", ahead + `b(tt(i(s(u(em))))) s(u(em(div(b("x"))))))` + behind + ` s(u(em(b("y"))))`},
	} {
		// The eighth round leaves the b open; the end tags close it, and what was between.
		checkShape(t, "<b>"+rounds+c.between+"<div>x</b>"+strings.Repeat("</div>", 8)+"y", c.want)
	}
	// The i isn't open any more; the b stays ahead of it.
	checkShape(t, "<b><p><i></p>"+strings.Repeat("<div>", 8)+"</b>"+strings.Repeat("</div>", 8)+"y",
		"b(p(i)) "+strings.Repeat("div(b ", 7)+"div(b)"+strings.Repeat(")", 7)+` b(i("y"))`)
}

// P11.5: on the stack it lies right behind the furthest block.
func TestAdoptionLaysOnTheStack(t *testing.T) {
	checkShape(t, "<b>"+strings.Repeat("<div>", 9)+"x</b>y</div>z",
		strings.Repeat("b div(", 8)+`b(div("xy") "z")`+strings.Repeat(")", 8))
}

// P11.5: the place is that of the one ahead, fostering being on.
func TestAdoptionIsFostered(t *testing.T) {
	checkBodies(t, []row{
		{"<table><b><div></b>x", `b div(b "x") table`, "unexpected-start-tag@7 unexpected-start-tag@10 unexpected-end-tag@15 misnested-formatting@15 unexpected-text-in-table@19 unclosed-elements@20"},
		{"<section><table><tr><b><p></b></table>", `section(b p(b) table(tbody(tr)))`, "unexpected-start-tag@20 unexpected-start-tag@23 unexpected-end-tag@26 misnested-formatting@26 unclosed-elements@38"},
		{"<table><tbody><b><i><div></b></table>", `b(i) i(div(b)) table(tbody)`, "unexpected-start-tag@14 unexpected-start-tag@17 unexpected-start-tag@20 unexpected-end-tag@25 misnested-formatting@25"},
		// The one ahead is no part of a table: all stays in it.
		{"<table><div><b><p></b></table>", `div(b p(b)) table`, "unexpected-start-tag@7 unexpected-start-tag@12 unexpected-start-tag@15 unexpected-end-tag@18 misnested-formatting@18"},
		{"<table><tr><td><b><p></b></table>", `table(tbody(tr(td(b p(b)))))`, "misnested-formatting@21"},
	})
}

// P11.5: by the start tag of an a.
func TestAdoptionByStartTag(t *testing.T) {
	checkBodies(t, []row{
		{"<a>1<p>2<a>3", `a("1") p(a("2") a("3"))`, "unexpected-start-tag@8 misnested-formatting@8 unclosed-elements@12"},
		{"<a><table><a></a></table>x", `a(a table) "x"`, "unexpected-start-tag@10 misnested-formatting@10 unexpected-end-tag@13"},
		{"<a><b><div><a>x", `a(b) b(div(a a("x")))`, "unexpected-start-tag@11 misnested-formatting@11 unclosed-elements@15"},
		{"<a>" + strings.Repeat("<div>", 9) + "<a>x", strings.Repeat("a div(", 8) + `a(div(a("x")))` + strings.Repeat(")", 8),
			"unexpected-start-tag@48 misnested-formatting@48 unclosed-elements@52"},
	})
}
