package words

import (
	"iter"
	"strings"

	"dragnet/api"
)

// Split returns the fields of a line.
func Split(line string) ([]api.Field, api.Errno) {
	if len(line) > api.MaxLine {
		return nil, api.ErrLong
	}
	var l []api.Field
	long := false
	for f, ok := range fieldsOf(line) {
		if !ok {
			return nil, api.ErrForm
		}
		long = long || len(f.S) > api.MaxField
		l = append(l, f)
	}
	// Only now: a fault anywhere in the line comes before a field that is too long.
	if long || len(l) > api.MaxFields {
		return nil, api.ErrLong
	}
	return l, api.OK
}

// Join returns the line of some fields.
func Join(l []api.Field) (string, api.Errno) {
	if len(l) > api.MaxFields {
		return "", api.ErrLong
	}
	for _, f := range l {
		if len(f.S) > api.MaxField {
			return "", api.ErrLong
		}
	}
	var line []byte
	for i, f := range l {
		if !f.Quoted && !bareText(f.S) {
			return "", api.ErrForm
		}
		if i > 0 {
			line = append(line, ' ')
		}
		line = append(line, write(f)...)
	}
	if len(line) > api.MaxLine {
		return "", api.ErrLong
	}
	return string(line), api.OK
}

// Lines returns the lines of a text, without their line feeds.
func Lines(text string) ([]string, api.Errno) {
	if len(text) > api.MaxText {
		return nil, api.ErrLong
	}
	if text != "" && text[len(text)-1] != '\n' {
		return nil, api.ErrForm
	}
	many := strings.Count(text, "\n")
	if many > api.MaxTextLines {
		return nil, api.ErrLong
	}
	l := make([]string, many)
	for i := range l {
		line, rest, _ := strings.Cut(text, "\n")
		// A part of the text would keep all of it in memory.
		l[i] = strings.Clone(line)
		text = rest
	}
	return l, api.OK
}

// fieldsOf yields the fields of a line, whatever their number and length, and true; at a fault no field and false, and then nothing more.
func fieldsOf(line string) iter.Seq2[api.Field, bool] {
	return func(yield func(api.Field, bool) bool) {
		var f api.Field
		var n int
		rest := line
		if rest == "" {
			return
		}
	bareField:
		if rest != "" && rest[0] == '"' {
			goto quotedField
		}
		n = barePrefix(rest)
		f = api.Field{S: strings.Clone(rest[:n])}
		goto fieldEnd
	quotedField:
		f.S, n = quotedPrefix(rest)
		f.Quoted = true
	fieldEnd:
		if n == 0 || n < len(rest) && rest[n] != ' ' {
			yield(api.Field{}, false)
			return
		}
		if !yield(f, true) || n == len(rest) {
			return
		}
		rest = rest[n+1:]
		goto bareField
	}
}

// bare reports whether a bare field may have this byte.
func bare(b byte) bool {
	return plain(b) && b != ' '
}

// barePrefix returns how many bytes at the beginning of s may be in a bare field.
func barePrefix(s string) int {
	n := 0
	for n < len(s) && bare(s[n]) {
		n++
	}
	return n
}

// bareText reports whether s may be written as a bare field.
func bareText(s string) bool {
	return s != "" && barePrefix(s) == len(s)
}

// write returns a field as it is in a line.
func write(f api.Field) string {
	if f.Quoted {
		return Quote(f.S)
	}
	return f.S
}
