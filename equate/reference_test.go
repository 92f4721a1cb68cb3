package equate

import (
	"fmt"
	"slices"
	"sort"
	"strings"

	"equate/api"
)

// The document's words done one after the other over whole lists, to hold the stages against.
type reference struct {
	class   map[rune]int
	canon   map[rune][]rune
	compat  map[rune][]rune
	folding map[rune][]rune
}

func newReference() reference {
	r := reference{map[rune]int{}, map[rune][]rune{}, map[rune][]rune{}, map[rune][]rune{}}
	for _, line := range strings.Split(strings.TrimSpace(api.Data), "\n") {
		var c rune
		var class int
		var kind, parts, folding string
		if _, err := fmt.Sscanf(line, "%x %d %s %s %s", &c, &class, &kind, &parts, &folding); err != nil {
			panic(line)
		}
		r.class[c] = class
		if kind != "-" {
			r.compat[c] = scanList(parts)
		}
		if kind == "c" {
			r.canon[c] = scanList(parts)
		}
		if folding != "-" {
			r.folding[c] = scanList(folding)
		}
	}
	for i, c := range "ABCDEFGHIJKLMNOPQRSTUVWXYZ" {
		r.folding[c] = []rune("abcdefghijklmnopqrstuvwxyz"[i : i+1])
	}
	r.addSyllables()
	return r
}

func scanList(text string) []rune {
	var list []rune
	for _, word := range strings.Split(text, "+") {
		var c rune
		if _, err := fmt.Sscanf(word, "%x", &c); err != nil {
			panic(text)
		}
		list = append(list, c)
	}
	return list
}

// Counted up instead of divided, so that a slip in the one is not in the other.
func (r reference) addSyllables() {
	c := rune(0xAC00)
	for lead := rune(0x1100); lead <= 0x1112; lead++ {
		for vowel := rune(0x1161); vowel <= 0x1175; vowel++ {
			for tail := rune(0x11A7); tail <= 0x11C2; tail++ {
				parts := []rune{lead, vowel, tail}
				if tail == 0x11A7 {
					parts = parts[:2]
				}
				r.canon[c], r.compat[c] = parts, parts
				c++
			}
		}
	}
}

func replaced(list []rune, by map[rune][]rune) []rune {
	var out []rune
	for _, c := range list {
		if parts := by[c]; parts != nil {
			out = append(out, parts...)
		} else {
			out = append(out, c)
		}
	}
	return out
}

func takenApart(list []rune, by map[rune][]rune) []rune {
	for range 4 { // no code point of the table is taken apart in more steps
		list = replaced(list, by)
	}
	return list
}

func (r reference) ordered(list []rune) []rune {
	for from := 0; from < len(list); from++ {
		to := from
		for to < len(list) && r.class[list[to]] != 0 {
			to++
		}
		run := list[from:to]
		sort.SliceStable(run, func(i, j int) bool { return r.class[run[i]] < r.class[run[j]] })
		from = to
	}
	return list
}

// kinds tells by which decompositions each stage of a mode takes apart.
func (r reference) kinds(mode int) []map[rune][]rune {
	switch mode {
	case api.Same:
		return []map[rune][]rune{r.canon}
	case api.Alike:
		return []map[rune][]rune{r.compat}
	case api.SameCase:
		return []map[rune][]rune{r.canon, r.canon}
	}
	return []map[rune][]rune{r.canon, r.compat, r.compat}
}

// forms is what comes out of each stage of a mode.
func (r reference) forms(mode int, list []rune) [][]rune {
	var forms [][]rune
	for i, by := range r.kinds(mode) {
		if i > 0 {
			list = replaced(list, r.folding)
		}
		list = r.ordered(takenApart(list, by))
		forms = append(forms, slices.Clone(list))
	}
	return forms
}

func (r reference) lastForm(mode int, s string) []rune {
	list, _ := codePoints(s)
	forms := r.forms(mode, list)
	return forms[len(forms)-1]
}

func (r reference) key(mode int, s string) string { return string(r.lastForm(mode, s)) }

func (r reference) cuts(mode int, s string) []int {
	var cuts []int
	list, places := codePoints(s)
	for i, c := range list {
		starts := i > 0
		for _, form := range r.forms(mode, []rune{c}) {
			starts = starts && r.class[form[0]] == 0
		}
		if starts {
			cuts = append(cuts, places[i])
		}
	}
	return cuts
}

func (r reference) compare(mode int, a, b string) int {
	return slices.Compare(r.lastForm(mode, a), r.lastForm(mode, b))
}

// codePoints reads a text as the document says it, and tells the place of each code point.
func codePoints(s string) (list []rune, places []int) {
	for at := 0; at < len(s); {
		c, size := rune(0xFFFD), 1
		for n := 1; n <= 4 && at+n <= len(s); n++ {
			if d, ok := oneCodePoint(s[at : at+n]); ok {
				c, size = d, n
			}
		}
		list, places = append(list, c), append(places, at)
		at += size
	}
	return list, places
}

// oneCodePoint puts the bits together as if all were well, and then asks whether they would be written so.
func oneCodePoint(s string) (rune, bool) {
	c := rune(s[0])
	if len(s) > 1 {
		c &= 0x7F >> len(s)
	}
	for _, b := range []byte(s[1:]) {
		c = c<<6 | rune(b&0x3F)
	}
	return c, string(c) == s
}
