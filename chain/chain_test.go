package chain

import (
	"fmt"
	"slices"
	"strings"
	"testing"

	"porter/api"
	"porter/hmac"
)

var key = strings.Repeat("k", 32)

func link(text, seal string) api.Link { return api.Link{Text: text, Seal: seal} }

func TestSingleTags(t *testing.T) { // 34.1
	for _, k := range []string{"", key, strings.Repeat("k", 100)} {
		for _, s := range []string{"", "id", "root"} {
			for _, c := range []struct {
				what, got, want string
			}{
				{"Root", Root(k, s), hmac.Parts(k, "root", s)}, {"Bind", Bind(k, s), hmac.Parts(k, "bind", s)}, {"Seal", Seal(k), hmac.Parts(k, "seal")},
				{"Next", Next(k, link(s, "")), hmac.Parts(k, "first", s)}, {"Next with a seal", Next(k, link(s, "x")), hmac.Parts(k, "third", "x", s)},
			} {
				if c.got != c.want {
					t.Errorf("%s of %q and %q is wrong", c.what, k, s)
				}
			}
		}
	}
}

func TestTagsAndLast(t *testing.T) { // 34.2, 34.3
	links := []api.Link{link("a", ""), link("b", "c"), link("", ""), link("", "d")}
	for n := range len(links) + 1 {
		tok := api.Token{ID: "id", Links: links[:n], Tag: "ignored"}
		want := []string{Root(key, "id")}
		for _, l := range links[:n] {
			want = append(want, Next(want[len(want)-1], l))
		}
		if got := Tags(key, tok); !slices.Equal(got, want) {
			t.Errorf("Tags with %d links: %q", n, got)
		}
		if got := Last(key, tok); got != want[n] {
			t.Errorf("Last with %d links: %q", n, got)
		}
		tok.Tag = ""
		if Last(key, tok) != want[n] {
			t.Error("the token's Tag matters")
		}
	}
}

func TestDifferentTokensHaveDifferentTags(t *testing.T) { // 34.3
	choices := []api.Link{link("", ""), link("a", ""), link("b", ""), link("a", "b"), link("b", "a"), link("ab", ""), link("", "ab")}
	lists := [][]api.Link{nil}
	for _, a := range choices {
		lists = append(lists, []api.Link{a})
		for _, b := range choices {
			lists = append(lists, []api.Link{a, b})
		}
	}
	tags := map[string]string{}
	for _, id := range []string{"", "a", "b", "first"} {
		for _, l := range lists {
			what := fmt.Sprintf("%q %q", id, l)
			tag := Last(key, api.Token{ID: id, Links: l})
			if other, seen := tags[tag]; seen {
				t.Errorf("%s and %s have the same tag", what, other)
			}
			tags[tag] = what
			if seal, bound := Seal(tag), Bind(tag, tag); tags[seal] != "" || tags[bound] != "" {
				t.Errorf("a seal key or bound tag of %s is a tag", what)
			}
		}
	}
}
