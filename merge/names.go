package merge

// count: how many codes there are.
const count = 61

// names are in the order of the codes, from 1 on. (They are made here as there are more than a table of the package may hold.)
func names() [count]string {
	return [count]string{
		"unsupported-encoding", "bad-sequence", "control-character", "unexpected-null-character",
		"eof-before-tag-name", "invalid-first-character-of-tag-name", "missing-end-tag-name", "eof-in-tag",
		"unexpected-character-in-attribute-name", "unexpected-equals-sign-before-attribute-name",
		"missing-attribute-value", "unexpected-character-in-unquoted-attribute-value",
		"missing-whitespace-between-attributes", "unexpected-solidus-in-tag", "duplicate-attribute",
		"end-tag-with-attributes", "end-tag-with-trailing-solidus", "incorrectly-opened-comment",
		"unexpected-question-mark-instead-of-tag-name", "abrupt-closing-of-empty-comment", "eof-in-comment",
		"nested-comment", "incorrectly-closed-comment", "eof-in-doctype",
		"missing-whitespace-before-doctype-name", "missing-doctype-name",
		"invalid-character-sequence-after-doctype-name", "absence-of-digits-in-numeric-character-reference",
		"missing-semicolon-after-character-reference", "unknown-named-character-reference",
		"null-character-reference", "character-reference-outside-unicode-range",
		"surrogate-character-reference", "noncharacter-character-reference", "control-character-reference",
		"missing-doctype", "unexpected-doctype", "unexpected-start-tag", "unexpected-end-tag",
		"unexpected-text-in-table", "unclosed-elements", "non-void-element-with-trailing-solidus",
		"misnested-formatting", "nested-element", "element-not-allowed", "text-not-allowed",
		"content-not-complete", "obsolete-element", "attribute-not-allowed", "obsolete-attribute",
		"bad-attribute-value", "missing-attribute", "duplicate-id", "unknown-id", "heading-skipped",
		"label-without-control", "nested-label", "cell-overlap", "row-span-beyond-table", "limit-exceeded",
		"bad-options",
	}
}
