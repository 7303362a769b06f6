package deep

import (
	"strings"

	"ostler/api"
	"ostler/conv"
)

// Show is a value's text for people.
func Show(v api.Value) (string, api.Errno) {
	if !Right(v) {
		return "", api.ErrArg
	}
	var out strings.Builder
	show(&out, v, 0)
	return out.String(), api.OK
}

// show writes a value that lies in so many lists.
func show(out *strings.Builder, v api.Value, around int) {
	switch v.Kind {
	case api.Null:
		out.WriteString("NULL")
	case api.Bool:
		out.WriteString(truthWord(v))
	case api.Int:
		out.WriteString(conv.Digits(v.Int))
	case api.Text:
		showText(out, v.Text)
	case api.List:
		showItems(out, v.Items, around)
	case api.Obj:
		out.WriteString("object(" + conv.Digits(v.Int) + ")")
	}
}

func truthWord(v api.Value) string {
	if conv.Truth(v) {
		return "true"
	}
	return "false"
}

// showText writes a text between quotes.
func showText(out *strings.Builder, s string) {
	out.WriteByte('\'')
	for i := range len(s) {
		if s[i] == '\'' || s[i] == '\\' {
			out.WriteByte('\\')
		}
		out.WriteByte(s[i])
	}
	out.WriteByte('\'')
}

// showItems writes the items of a list that lies in so many others, each on a line of its own.
func showItems(out *strings.Builder, items []api.Item, around int) {
	out.WriteString("array (\n")
	for _, item := range items {
		indent(out, around+1)
		showKey(out, item.Key)
		out.WriteString(" => ")
		show(out, item.V, around+1)
		out.WriteString(",\n")
	}
	indent(out, around)
	out.WriteByte(')')
}

func indent(out *strings.Builder, lists int) {
	for range lists {
		out.WriteString("  ")
	}
}

func showKey(out *strings.Builder, k api.Key) {
	if k.IsText {
		showText(out, k.Text)
		return
	}
	out.WriteString(conv.Digits(k.Int))
}
