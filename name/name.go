// Package name defines the syntax of unit names: see doc/01-name.md.
package name

import (
	"strings"

	"matins/api"
)

const hexDigits = "0123456789abcdef"

// pieces is a unit name taken apart. Two names are equal exactly if their
// pieces are.
type pieces struct {
	prefix, instance string
	at               bool
	kind             int
}

// May reports whether s is a unit name.
func May(s string) bool {
	_, ok := parse(s)
	return ok
}

// Kind returns the kind of the unit name s, or 0 if s is none.
func Kind(s string) int {
	p, _ := parse(s)
	return p.kind
}

// Parts returns the prefix and the instance string of the unit name s, and
// whether s has an @. If s is no unit name, it returns zero values.
func Parts(s string) (prefix, instance string, at bool) {
	p, _ := parse(s)
	return p.prefix, p.instance, p.at
}

// Template returns the template of the instance s, or "" if s is no instance.
func Template(s string) string {
	p, _ := parse(s)
	if p.instance == "" {
		return ""
	}
	p.instance = ""
	return p.join()
}

// Instance returns the instance of template with the given instance string,
// and whether there is one.
func Instance(template, instance string) (string, bool) {
	p, _ := parse(template)
	if !p.isTemplate() || instance == "" {
		return "", false
	}
	p.instance = instance
	s := p.join()
	if q, ok := parse(s); !ok || q != p {
		return "", false
	}
	return s, true
}

// Change returns the unit name s with the suffix of another kind, or "" if
// that yields no unit name.
func Change(s string, kind int) string {
	p, ok := parse(s)
	if !ok || Suffix(kind) == "" {
		return ""
	}
	p.kind = kind
	changed := p.join()
	// The new suffix may be too long for what the old one left room for.
	if !May(changed) {
		return ""
	}
	return changed
}

// Suffix returns the suffix of a kind, or "" if kind is none.
func Suffix(kind int) string {
	switch kind {
	case api.KService:
		return "service"
	case api.KSocket:
		return "socket"
	case api.KTimer:
		return "timer"
	case api.KTarget:
		return "target"
	}
	return ""
}

// Escape writes any text with the bytes that a unit name may have.
func Escape(text string) string {
	var b strings.Builder
	for i := range len(text) {
		c := text[i]
		switch {
		case c == '/':
			b.WriteByte('-')
		case isPlain(c) && (c != '.' || i > 0):
			b.WriteByte(c)
		default:
			b.WriteString(`\x`)
			b.WriteByte(hexDigits[c>>4])
			b.WriteByte(hexDigits[c&15])
		}
	}
	return b.String()
}

// Unescape returns the text that Escape wrote as s, and whether s has the
// form of an escaped text.
func Unescape(s string) (string, bool) {
	var b strings.Builder
	for i := 0; i < len(s); i++ {
		c := s[i]
		switch {
		case c == '-':
			b.WriteByte('/')
		case isPlain(c):
			b.WriteByte(c)
		case c == '\\':
			value, ok := hexByte(s[i+1:])
			if !ok {
				return "", false
			}
			b.WriteByte(value)
			i += len("x00")
		default:
			return "", false
		}
	}
	return b.String(), true
}

// parse takes a unit name apart. If s is none, it returns no pieces and false.
func parse(s string) (pieces, bool) {
	if len(s) > api.MaxName {
		return pieces{}, false
	}
	point := strings.LastIndexByte(s, '.')
	if point < 0 {
		return pieces{}, false
	}
	// An @ behind the last point needs no look: no suffix has one.
	kind := kindOf(s[point+1:])
	prefix, instance, at := strings.Cut(s[:point], "@")
	if kind == 0 || prefix == "" || !isBody(prefix) || !isBody(instance) {
		return pieces{}, false
	}
	return pieces{prefix, instance, at, kind}, true
}

// kindOf returns the kind whose suffix is s, or 0.
func kindOf(s string) int {
	for kind := api.KService; kind <= api.KTarget; kind++ {
		if s == Suffix(kind) {
			return kind
		}
	}
	return 0
}

func (p pieces) isTemplate() bool {
	return p.at && p.instance == ""
}

func (p pieces) join() string {
	s := p.prefix
	if p.at {
		s += "@" + p.instance
	}
	return s + "." + Suffix(p.kind)
}

// isBody reports whether a prefix or an instance string may have the bytes of s.
func isBody(s string) bool {
	for i := range len(s) {
		if c := s[i]; !isPlain(c) && c != '-' && c != '\\' {
			return false
		}
	}
	return true
}

// isPlain reports whether c stands for itself in an escaped text.
func isPlain(c byte) bool {
	return 'a' <= c && c <= 'z' || 'A' <= c && c <= 'Z' || '0' <= c && c <= '9' ||
		c == ':' || c == '_' || c == '.'
}

// hexByte reads the byte that x and two digits at the beginning of s stand for.
func hexByte(s string) (byte, bool) {
	if len(s) < len("x00") || s[0] != 'x' {
		return 0, false
	}
	high := strings.IndexByte(hexDigits, s[1])
	low := strings.IndexByte(hexDigits, s[2])
	if high < 0 || low < 0 {
		return 0, false
	}
	return byte(high<<4 | low), true
}
