package listing

import (
	"iter"
	"strings"

	"cairn/api"
)

const (
	noDelim  = -1
	lastByte = 255
)

// Page is the first entries behind After of the keys that begin with the query's prefix. (P22.3)
func Page(set *api.Set, done <-chan struct{}, q api.Query) (api.Page, api.Errno) {
	// The set comes ahead of the query, and the query ahead of the rounds.
	if err := check(set); err != api.OK {
		return api.Page{}, err
	}
	if q.Delim < noDelim || q.Delim > lastByte || q.Limit < 1 || q.Limit > api.MaxPage {
		return api.Page{}, api.ErrArg
	}
	keys, err := List(set, done, q.Prefix)
	if err != api.OK {
		return api.Page{}, err
	}
	return pageOf(keys, q), api.OK
}

// pageOf is the page of these keys, which rise and begin with the query's prefix.
func pageOf(keys []string, q api.Query) api.Page {
	var page api.Page
	last := ""
	for entry := range Merge(entries(keys, q)) {
		if len(page.Keys)+len(page.Groups) == q.Limit {
			page.More, page.Next = true, last
			break
		}
		if _, isGroup := entryOf(entry, q); isGroup { // an entry is its own one
			page.Groups = append(page.Groups, entry)
		} else {
			page.Keys = append(page.Keys, entry)
		}
		last = entry
	}
	return page
}

// entries goes through the entries of the keys that stand behind After, each as often as it has keys. They rise as the keys do: two keys that are alike up to their first Delim have one entry, and of two others the entries part where the keys do.
func entries(keys []string, q api.Query) iter.Seq[string] {
	return func(yield func(string) bool) {
		for _, key := range keys {
			if entry, _ := entryOf(key, q); entry > q.After && !yield(entry) {
				return
			}
		}
	}
}

// entryOf is the entry of a key that begins with the query's prefix, and whether it is a group.
func entryOf(key string, q api.Query) (string, bool) {
	if q.Delim == noDelim {
		return key, false
	}
	at := strings.IndexByte(key[len(q.Prefix):], byte(q.Delim))
	if at < 0 {
		return key, false
	}
	return key[:len(q.Prefix)+at+1], true
}
