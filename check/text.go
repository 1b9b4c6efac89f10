package check

import (
	"strconv"
	"strings"

	"catapult/api"
	"catapult/tree"
)

// maxPrinted is how many bytes the text of a core program has at most.
const maxPrinted = 1 << 20

// printed is functions as a text, a line each; false, if it is too long.
func printed(l []api.CoreFunc) (string, bool) {
	var w strings.Builder
	for _, f := range l {
		w.WriteString(f.Name + " " + string(f.Type))
		for _, n := range f.Body {
			w.WriteString(" " + nodeText(n))
			if w.Len() > maxPrinted {
				return "", false
			}
		}
		w.WriteString("\n")
	}
	return w.String(), w.Len() <= maxPrinted
}

// nodeText is a node as a text.
func nodeText(n api.Node) string {
	l := []string{strconv.Itoa(n.Kind), strconv.Itoa(n.N), strconv.Itoa(n.Int), quoted(n.Text), string(n.Type)}
	return strings.Join(l, ":")
}

// quoted is a text in quotes, as an expression tells it; an empty one is none.
func quoted(s string) string {
	if s == "" {
		return ""
	}
	q, _ := tree.PrintExpr(api.Tree{{Kind: api.NString, Text: s}}) // a node's text is short
	return q
}
