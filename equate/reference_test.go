package equate

import (
	"fmt"
	"sort"
	"strings"

	"equate/api"
)

// The document's words done one after the other over whole lists, to hold the stages against.
type reference struct {
	class   map[rune]int
	canon   map[rune][]rune
	compat  map[rune][]rune
	folding map[rune][]rune
}

func newReference() reference {
	r := reference{map[rune]int{}, map[rune][]rune{}, map[rune][]rune{}, map[rune][]rune{}}
	for _, line := range strings.Split(strings.TrimSpace(api.Data), "\n") {
		var c rune
		var class int
		var kind, parts, folding string
		if _, err := fmt.Sscanf(line, "%x %d %s %s %s", &c, &class, &kind, &parts, &folding); err != nil {
			panic(line)
		}
		r.class[c] = class
		if kind != "-" {
			r.compat[c] = scanList(parts)
		}
		if kind == "c" {
			r.canon[c] = scanList(parts)
		}
		if folding != "-" {
			r.folding[c] = scanList(folding)
		}
	}
	for i, c := range "ABCDEFGHIJKLMNOPQRSTUVWXYZ" {
		r.folding[c] = []rune("abcdefghijklmnopqrstuvwxyz"[i : i+1])
	}
	r.addSyllables()
	return r
}

func scanList(text string) []rune {
	var list []rune
	for _, word := range strings.Split(text, "+") {
		var c rune
		if _, err := fmt.Sscanf(word, "%x", &c); err != nil {
			panic(text)
		}
		list = append(list, c)
	}
	return list
}

// Counted up instead of divided, so that a slip in the one is not in the other.
func (r reference) addSyllables() {
	c := rune(0xAC00)
	for lead := rune(0x1100); lead <= 0x1112; lead++ {
		for vowel := rune(0x1161); vowel <= 0x1175; vowel++ {
			for tail := rune(0x11A7); tail <= 0x11C2; tail++ {
				parts := []rune{lead, vowel, tail}
				if tail == 0x11A7 {
					parts = parts[:2]
				}
				r.canon[c], r.compat[c] = parts, parts
				c++
			}
		}
	}
}

func replaced(list []rune, by map[rune][]rune) []rune {
	var out []rune
	for _, c := range list {
		if parts := by[c]; parts != nil {
			out = append(out, parts...)
		} else {
			out = append(out, c)
		}
	}
	return out
}

func (r reference) form(list []rune, by map[rune][]rune) []rune {
	for range 4 { // no code point of the table is taken apart in more steps
		list = replaced(list, by)
	}
	for from := 0; from < len(list); from++ {
		to := from
		for to < len(list) && r.class[list[to]] != 0 {
			to++
		}
		run := list[from:to]
		sort.SliceStable(run, func(i, j int) bool { return r.class[run[i]] < r.class[run[j]] })
		from = to
	}
	return list
}

func (r reference) key(mode int, s string) string {
	list := []rune(s)
	switch mode {
	case api.Same:
		list = r.form(list, r.canon)
	case api.Alike:
		list = r.form(list, r.compat)
	case api.SameCase:
		list = r.form(replaced(r.form(list, r.canon), r.folding), r.canon)
	case api.AlikeCase:
		list = r.form(replaced(r.form(list, r.canon), r.folding), r.compat)
		list = r.form(replaced(list, r.folding), r.compat)
	}
	return string(list)
}
