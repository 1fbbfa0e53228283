package pool

import (
	"sort"
	"strings"

	"accordion/key"
)

// entry is a string with its number.
type entry struct {
	text   string
	number int
}

// index is a list of entries whose strings are increasing.
type index struct {
	entries []entry
}

func (x *index) size() int {
	return len(x.entries)
}

// place returns where a string is, or where it would have to be inserted: key.Find does not tell the latter.
func (x *index) place(k string) int {
	return sort.Search(len(x.entries), func(i int) bool {
		return !key.Less(x.entries[i].text, k)
	})
}

// holds reports whether a string is at its place.
func (x *index) holds(place int, k string) bool {
	return place < len(x.entries) && x.entries[place].text == k
}

func (x *index) number(place int) int {
	return x.entries[place].number
}

// insert adds a string at its place. It keeps a copy, because the string may be a part of a long text that nothing else needs.
func (x *index) insert(place int, k string, number int) {
	x.entries = append(x.entries, entry{})
	copy(x.entries[place+1:], x.entries[place:])
	x.entries[place] = entry{strings.Clone(k), number}
}

// texts returns copies of the strings in increasing order.
func (x *index) texts() []string {
	l := make([]string, len(x.entries))
	for i, e := range x.entries {
		l[i] = strings.Clone(e.text)
	}
	return l
}
