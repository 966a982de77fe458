package merge_test

import (
	"math"
	"math/rand"
	"slices"
	"strconv"
	"strings"
	"testing"

	"beadle/api"
	"beadle/merge"
)

// chapter is the list of the names, each with its code, as the chapter has it.
const chapter = `unsupported-encoding 1, bad-sequence 2, control-character 3, unexpected-null-character 4, eof-before-tag-name 5,
invalid-first-character-of-tag-name 6, missing-end-tag-name 7, eof-in-tag 8, unexpected-character-in-attribute-name 9,
unexpected-equals-sign-before-attribute-name 10, missing-attribute-value 11, unexpected-character-in-unquoted-attribute-value 12,
missing-whitespace-between-attributes 13, unexpected-solidus-in-tag 14, duplicate-attribute 15, end-tag-with-attributes 16,
end-tag-with-trailing-solidus 17, incorrectly-opened-comment 18, unexpected-question-mark-instead-of-tag-name 19,
abrupt-closing-of-empty-comment 20, eof-in-comment 21, nested-comment 22, incorrectly-closed-comment 23, eof-in-doctype 24,
missing-whitespace-before-doctype-name 25, missing-doctype-name 26, invalid-character-sequence-after-doctype-name 27,
absence-of-digits-in-numeric-character-reference 28, missing-semicolon-after-character-reference 29,
unknown-named-character-reference 30, null-character-reference 31, character-reference-outside-unicode-range 32,
surrogate-character-reference 33, noncharacter-character-reference 34, control-character-reference 35, missing-doctype 36,
unexpected-doctype 37, unexpected-start-tag 38, unexpected-end-tag 39, unexpected-text-in-table 40, unclosed-elements 41,
non-void-element-with-trailing-solidus 42, misnested-formatting 43, nested-element 44, element-not-allowed 45, text-not-allowed 46,
content-not-complete 47, obsolete-element 48, attribute-not-allowed 49, obsolete-attribute 50, bad-attribute-value 51,
missing-attribute 52, duplicate-id 53, unknown-id 54, heading-skipped 55, label-without-control 56, nested-label 57, cell-overlap 58,
row-span-beyond-table 59, limit-exceeded 60, bad-options 61`

// P6.1
func TestNamesOfCodes(t *testing.T) {
	parts := strings.Split(chapter, ",")
	if len(parts) != int(api.BadOptions) {
		t.Fatalf("the test's list has %d names", len(parts))
	}
	for _, part := range parts {
		fields := strings.Fields(part)
		n, err := strconv.Atoi(fields[1])
		if err != nil {
			t.Fatal(err)
		}
		if got := merge.Name(api.Code(n)); got != fields[0] {
			t.Errorf("Name(%d): %q", n, got)
		}
		if c, ok := merge.Code(fields[0]); int(c) != n || !ok {
			t.Errorf("Code(%q): %d %t", fields[0], c, ok)
		}
	}
}

// P6.1
func TestNoCodes(t *testing.T) {
	for _, c := range []api.Code{0, -1, 62, 1000, math.MaxInt, math.MinInt} {
		if got := merge.Name(c); got != "" {
			t.Errorf("Name(%d): %q", c, got)
		}
	}
	for _, name := range []string{
		"", " ", "-", "eof", "eof-in-tag ", " eof-in-tag", "EOF-in-tag", "eof_in_tag", "EOFInTag", "eof-in-tag eof-in-comment", "8", "\xff",
	} {
		if c, ok := merge.Code(name); c != 0 || ok {
			t.Errorf("Code(%q): %d %t", name, c, ok)
		}
	}
}

// P6.2
func TestLess(t *testing.T) {
	rising := []api.Diag{
		{Code: math.MaxInt, At: math.MinInt, Node: "z"},
		{Code: 9, At: -1, Node: "z"},
		{Code: math.MinInt, At: 5},
		{Code: 2, At: 5, Node: ""},
		{Code: 2, At: 5, Node: "/"},
		{Code: 2, At: 5, Node: "/0"},
		{Code: 2, At: 5, Node: "/0/1"},
		{Code: 2, At: 5, Node: "/1"},
		{Code: 2, At: 5, Node: "/10"},
		{Code: 2, At: 5, Node: "/9"},
		{Code: 2, At: 5, Node: "\x80"},
		{Code: 3, At: 5, Node: ""},
		{Code: 1, At: 6},
		{Code: 1, At: math.MaxInt},
	}
	for i, a := range rising {
		for j, b := range rising {
			if got := merge.Less(a, b); got != (i < j) {
				t.Errorf("Less(%v, %v): %t", a, b, got)
			}
		}
	}
}

func diags(r *rand.Rand, most int) []api.Diag {
	var out []api.Diag
	for range r.Intn(most + 1) {
		out = append(out, api.Diag{Code: api.Code(r.Intn(3)), At: r.Intn(4) - 1, Node: []string{"", "/", "/0", "/0/1"}[r.Intn(4)]})
	}
	return out
}

// slowSort takes the least that is above all that was told, again and again.
func slowSort(l []api.Diag) []api.Diag {
	var out []api.Diag
	for {
		var least *api.Diag
		for i := range l {
			if len(out) > 0 && !merge.Less(out[len(out)-1], l[i]) {
				continue
			}
			if least == nil || merge.Less(l[i], *least) {
				least = &l[i]
			}
		}
		if least == nil {
			return out
		}
		out = append(out, *least)
	}
}

// P6.2
func TestSort(t *testing.T) {
	a, b, c := api.Diag{Code: 3, At: 5}, api.Diag{Code: 2, At: 5}, api.Diag{Code: 9, At: 1, Node: "/0"}
	if got := merge.Sort([]api.Diag{a, b, c, a}); !slices.Equal(got, []api.Diag{c, b, a}) {
		t.Errorf("%v", got)
	}
	if len(merge.Sort(nil)) != 0 || len(merge.Sort([]api.Diag{})) != 0 {
		t.Error("of nothing")
	}
	if got := merge.Sort([]api.Diag{{}, {}, {}}); !slices.Equal(got, []api.Diag{{}}) {
		t.Errorf("%v", got)
	}
	r := rand.New(rand.NewSource(6))
	for range 3000 {
		l := diags(r, 20)
		if got, want := merge.Sort(l), slowSort(l); !slices.Equal(got, want) {
			t.Fatalf("%v:\n got %v\nwant %v", l, got, want)
		}
	}
}

// P6.3
func TestMerge(t *testing.T) {
	a, b, c := api.Diag{Code: 3, At: 5}, api.Diag{Code: 2, At: 5}, api.Diag{Code: 9, At: 1, Node: "/0"}
	if got := merge.Merge([]api.Diag{c, a}, []api.Diag{b, a}); !slices.Equal(got, []api.Diag{c, b, a}) {
		t.Errorf("%v", got)
	}
	if len(merge.Merge()) != 0 || len(merge.Merge(nil, nil)) != 0 || len(merge.Merge([]api.Diag{}, nil)) != 0 {
		t.Error("of nothing")
	}
	if got := merge.Merge(nil, []api.Diag{a}, nil); !slices.Equal(got, []api.Diag{a}) {
		t.Errorf("%v", got)
	}
	r := rand.New(rand.NewSource(7))
	for range 3000 {
		var lists [][]api.Diag
		var all []api.Diag
		for range r.Intn(6) {
			l := diags(r, 10)
			lists = append(lists, merge.Sort(l))
			all = append(all, l...)
		}
		if got, want := merge.Merge(lists...), merge.Sort(all); !slices.Equal(got, want) {
			t.Fatalf("%v:\n got %v\nwant %v", lists, got, want)
		}
	}
}

// P6.3: of lists that weren't sorted nothing is promised but an end.
func TestMergeOfAnyLists(t *testing.T) {
	r := rand.New(rand.NewSource(8))
	for range 1000 {
		merge.Merge(diags(r, 10), diags(r, 10), diags(r, 10))
	}
}

// P6.2, P6.3: what is handed in stays as it is, and the answer is new.
func TestListsAreLeftAlone(t *testing.T) {
	room := []api.Diag{{At: 3}, {At: 1}, {At: 1}, {At: 2}, {At: 9}, {At: 8}}
	kept := slices.Clone(room)
	sorted := merge.Sort(room[:4])
	if !slices.Equal(room, kept) {
		t.Errorf("Sort changed %v", room)
	}
	clear(sorted)
	if !slices.Equal(room, kept) {
		t.Error("Sort's answer shares memory")
	}
	one, two := []api.Diag{{At: 1}, {At: 4}, {At: 9}}, []api.Diag{{At: 2}, {At: 3}}
	lists := [][]api.Diag{one[:2], two}
	merged := merge.Merge(lists...)
	_ = append(merged, api.Diag{At: 77})
	clear(merged)
	if !slices.Equal(one, []api.Diag{{At: 1}, {At: 4}, {At: 9}}) || !slices.Equal(two, []api.Diag{{At: 2}, {At: 3}}) {
		t.Errorf("Merge changed %v %v", one, two)
	}
	if len(lists) != 2 || len(lists[0]) != 2 || len(lists[1]) != 2 || lists[0][0].At != 1 {
		t.Errorf("Merge changed %v", lists)
	}
	single := merge.Merge(two)
	clear(single)
	if two[0].At != 2 {
		t.Error("Merge's answer shares memory")
	}
}

// P6.3: many lists, in time that grows with them.
func TestMergeOfMany(t *testing.T) {
	var lists [][]api.Diag
	for i := range 100000 {
		lists = append(lists, []api.Diag{{At: i % 7}, {At: 10 + i}})
	}
	if got := merge.Merge(lists...); len(got) != 100007 {
		t.Errorf("%d", len(got))
	}
}
