package runs_test

// What the document says of models, told a second time in another way: the tests hold the program's answers against it.

import (
	"regexp"
	"slices"
	"sort"
	"strings"

	"runs/runs"
)

const (
	risingForm = `(?:01?2?3?|12?3?|23?|3)`
	condForm   = `[0-3a-c][=#<][0-3a-c]`
	changeForm = `[a-c]=(?:\?|[0-3a-c](?:\+[0-3])?)`
	ruleForm   = `;(?:` + condForm + `(?:&` + condForm + `)*)?:` + changeForm + `(?:,` + changeForm + `)*`
)

var modelForm = regexp.MustCompile(`\Aa[1-3]=` + risingForm + `(?:,b[1-3]=` + risingForm + `(?:,c[1-3]=` + risingForm + `)?)?(?:` + ruleForm + `){0,8}\z`)

// endings: wherever a text stops that some model begins with, one of these ends that model.
var endings = []string{"", "a1=0", "1=0", "=0", "0", "b1=0", "c1=0", ":a=0", "=0:a=0", "0:a=0", "0=0:a=0", "a=0"}

func beginsModel(text string) bool {
	return slices.ContainsFunc(endings, func(end string) bool { return modelForm.MatchString(text + end) })
}

func wantCheck(model string) (runs.Errno, int) {
	if len(model) > 120 {
		return runs.ErrLong, 0
	}
	if !modelForm.MatchString(model) {
		// the least length at which no model begins so; the byte ahead of it is the wrong one
		return runs.ErrText, sort.Search(len(model), func(n int) bool { return !beginsModel(model[:n+1]) })
	}
	head, _, _ := strings.Cut(model, ";")
	count := strings.Count(head, ",") + 1
	faults := map[int]runs.Errno{}
	at := 0
	for _, v := range strings.Split(head, ",") {
		for i := 3; i < len(v); i++ {
			if v[i] > v[1] {
				faults[at+i] = runs.ErrValue
			}
		}
		at += len(v) + 1
	}
	for _, rule := range strings.Split(model, ";")[1:] {
		_, changes, _ := strings.Cut(rule, ":")
		seen := ""
		k := at + len(rule) - len(changes)
		for _, change := range strings.Split(changes, ",") {
			if strings.Contains(seen, change[:1]) {
				faults[k] = runs.ErrTwice
			}
			seen += change[:1]
			k += len(change) + 1
		}
		for i := range len(rule) {
			if c := rule[i]; c >= 'a'+byte(count) && c <= 'c' {
				faults[at+i] = runs.ErrName
			}
		}
		at += len(rule) + 1
	}
	for i := range len(model) {
		if e := faults[i]; e != runs.OK {
			return e, i
		}
	}
	return runs.OK, 0
}

// allStates are the texts of all states, rising, of a text that is a model.
func allStates(model string) []string {
	head, _, _ := strings.Cut(model, ";")
	all := []string{""}
	for _, v := range strings.Split(head, ",") {
		var longer []string
		for _, s := range all {
			for c := byte('0'); c <= v[1]; c++ {
				longer = append(longer, s+string(rune(c)))
			}
		}
		all = longer
	}
	return all
}

func wantFirst(model string) []string {
	head, _, _ := strings.Cut(model, ";")
	vars := strings.Split(head, ",")
	var out []string
	for _, s := range allStates(model) {
		ok := true
		for i := range len(s) {
			ok = ok && strings.Contains(vars[i][3:], s[i:i+1])
		}
		if ok {
			out = append(out, s)
		}
	}
	return out
}

func termIn(term byte, state string) int {
	if term >= 'a' {
		term = state[term-'a']
	}
	return int(term - '0')
}

func condIn(cond string, state string) bool {
	x, y := termIn(cond[0], state), termIn(cond[2], state)
	return cond[1] == '=' && x == y || cond[1] == '#' && x != y || cond[1] == '<' && x < y
}

// makes tells whether a change may give the digit, the greatest one being as given.
func makes(change string, state string, digit, greatest byte) bool {
	if change[2] == '?' {
		return true
	}
	x := termIn(change[2], state)
	if len(change) > 3 {
		x += int(change[4] - '0')
	}
	for x > int(greatest-'0') {
		x -= int(greatest-'0') + 1
	}
	return x == int(digit-'0')
}

func wantNext(model string, state string) []string {
	parts := strings.Split(model, ";")
	vars := strings.Split(parts[0], ",")
	found := map[string]bool{}
	may := false
	for _, rule := range parts[1:] {
		conds, changes, _ := strings.Cut(rule, ":")
		if conds != "" && slices.ContainsFunc(strings.Split(conds, "&"), func(c string) bool { return !condIn(c, state) }) {
			continue
		}
		may = true
		for _, s := range allStates(model) {
			ok := true
			for i := range len(s) {
				k := slices.IndexFunc(strings.Split(changes, ","), func(c string) bool { return c[0] == 'a'+byte(i) })
				if k < 0 {
					ok = ok && s[i] == state[i]
				} else {
					ok = ok && makes(strings.Split(changes, ",")[k], state, s[i], vars[i][1])
				}
			}
			found[s] = found[s] || ok
		}
	}
	if !may {
		return []string{state}
	}
	var out []string
	for _, s := range allStates(model) {
		if found[s] {
			out = append(out, s)
		}
	}
	return out
}
