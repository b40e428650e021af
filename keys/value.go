package keys

import (
	"slices"
	"strconv"
	"strings"

	"matins/api"
	"matins/cal"
	"matins/name"
	"matins/span"
	"matins/words"
)

const (
	maxDigits   = 5     // of a number
	maxNumber   = 65535 // the greatest number
	maxVariable = 60    // bytes of a variable name
)

// Value returns OK if a key takes a value, and otherwise an error.
func Value(k api.Key, value string) api.Errno {
	if !isForm(k.Form) {
		return api.ErrKind
	}
	if !takes(k, value) {
		return api.ErrValue
	}
	return api.OK
}

// isForm reports whether form is one of the forms of values, whose numbers have
// no gap.
func isForm(form int) bool {
	return api.VText <= form && form <= api.VInts
}

// takes reports whether a key takes a value.
func takes(k api.Key, value string) bool {
	if value == "" {
		return k.List || k.Form == api.VText
	}
	switch k.Form {
	case api.VText:
		return true
	case api.VBool:
		return isBool(value)
	case api.VInt:
		return isNumber(value)
	case api.VInts:
		return isListOf(value, isNumber)
	case api.VSpan:
		_, ok := span.Parse(value)
		return ok
	case api.VCal:
		_, ok := cal.Parse(value)
		return ok
	case api.VName:
		return isUnit(value)
	case api.VNames:
		return isListOf(value, isUnit)
	case api.VExec:
		return isCommand(value)
	case api.VEnv:
		return isEnvironment(value)
	case api.VWord:
		return slices.Contains(k.Words, value)
	}
	return false
}

// isListOf reports whether s has elements separated by blanks, at least one, and
// has holds for each.
func isListOf(s string, has func(string) bool) bool {
	found := false
	for element := range strings.SplitSeq(s, " ") {
		// Consecutive blanks, and those at the ends, have nothing between them.
		if element == "" {
			continue
		}
		if !has(element) {
			return false
		}
		found = true
	}
	return found
}

func isBool(s string) bool {
	switch s {
	case "yes", "true", "1", "no", "false", "0":
		return true
	}
	return false
}

func isNumber(s string) bool {
	if len(s) > maxDigits || !consistsOf(s, isDigit) {
		return false
	}
	n, err := strconv.Atoi(s)
	return err == nil && n <= maxNumber
}

// isUnit reports whether s is a unit name and no template.
func isUnit(s string) bool {
	_, instance, at := name.Parts(s)
	return name.May(s) && (!at || instance != "")
}

func isCommand(s string) bool {
	l, err := words.Split(strings.TrimPrefix(s, "-"))
	return err == api.OK && len(l) > 0 && l[0] != ""
}

func isEnvironment(s string) bool {
	l, err := words.Split(s)
	return err == api.OK && len(l) > 0 && !slices.ContainsFunc(l, isNoAssignment)
}

func isNoAssignment(word string) bool {
	variable, _, found := strings.Cut(word, "=")
	return !found || !isVariable(variable)
}

// isVariable reports whether s is a variable name.
func isVariable(s string) bool {
	return len(s) <= maxVariable && consistsOf(s, isOfVariable) && !isDigit(s[0])
}

// consistsOf reports whether s has at least one byte, and has holds for each.
func consistsOf(s string, has func(byte) bool) bool {
	for i := range len(s) {
		if !has(s[i]) {
			return false
		}
	}
	return s != ""
}

// isOfVariable reports whether c may stand in a variable name.
func isOfVariable(c byte) bool {
	return 'a' <= c && c <= 'z' || 'A' <= c && c <= 'Z' || isDigit(c) || c == '_'
}

func isDigit(c byte) bool {
	return '0' <= c && c <= '9'
}
