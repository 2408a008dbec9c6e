package value

import (
	"strconv"
	"unicode/utf8"

	"codicil/api"
)

const (
	hexDigits = "0123456789abcdef"
	deleted   = 0x7f // the one rune from 20 (hexadecimal) on that a text does not show as it is
)

// Print is v as a text.
func Print(v api.Value) (string, api.Errno) {
	if err := Check(v); err != api.OK {
		return "", err
	}
	return string(printed(nil, v)), api.OK
}

// printed is out with v, which Check takes, written behind it.
func printed(out []byte, v api.Value) []byte {
	switch c := inside(v).(type) {
	case truth:
		return strconv.AppendBool(out, bool(c))
	case number:
		return strconv.AppendInt(out, int64(c), 10)
	case text:
		return printedText(out, string(c))
	case octets:
		return printedBytes(out, c)
	case list:
		return printedItems(out, '[', ']', c, printed)
	case document:
		return printedItems(out, '{', '}', c, printedField)
	}
	return append(out, "null"...)
}

func printedField(out []byte, f api.Field) []byte {
	out = append(out, f.Name...)
	out = append(out, ": "...)
	return printed(out, f.Value)
}

func printedItems[T any](out []byte, begin, end byte, items []T, one func([]byte, T) []byte) []byte {
	out = append(out, begin)
	for at, item := range items {
		if at > 0 {
			out = append(out, ", "...)
		}
		out = one(out, item)
	}
	return append(out, end)
}

func printedBytes(out, b []byte) []byte {
	out = append(out, "x'"...)
	for _, c := range b {
		out = append(out, hexDigits[c>>4], hexDigits[c&15])
	}
	return append(out, '\'')
}

func printedText(out []byte, s string) []byte {
	out = append(out, '"')
	for _, r := range s {
		out = printedRune(out, r)
	}
	return append(out, '"')
}

func printedRune(out []byte, r rune) []byte {
	switch {
	case r == '"', r == '\\':
		return append(out, '\\', byte(r))
	case r == '\n':
		return append(out, `\n`...)
	case r == '\r':
		return append(out, `\r`...)
	case r == '\t':
		return append(out, `\t`...)
	case r < ' ', r == deleted:
		out = append(out, `\u{`...)
		out = strconv.AppendInt(out, int64(r), 16)
		return append(out, '}')
	}
	return utf8.AppendRune(out, r)
}
