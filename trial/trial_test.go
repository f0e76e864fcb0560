package trial_test

import (
	"slices"
	"testing"

	"furrow/trial"
)

func TestWords(t *testing.T) {
	var got []string
	for word := range trial.Words([]byte("abc"), 2) {
		got = append(got, string(word))
	}
	if want := []string{"aa", "ab", "ac", "ba", "bb", "bc", "ca", "cb", "cc"}; !slices.Equal(got, want) {
		t.Error(got)
	}
	if got := slices.Collect(trial.Words([]int{1, 2}, 0)); len(got) != 1 || len(got[0]) != 0 {
		t.Error(got)
	}
}

func TestJoined(t *testing.T) {
	got := slices.Collect(trial.Joined([]string{"a", "bc"}, 2))
	if want := []string{"", "a", "bc", "aa", "abc", "bca", "bcbc"}; !slices.Equal(got, want) {
		t.Error(got)
	}
}

func TestTexts(t *testing.T) {
	seen := map[string]bool{}
	for s := range trial.Texts() {
		seen[s] = true
	}
	for _, s := range []string{"", "\x00", "\xff", "\xc3\xa9", "\xe0\x9f\xbf", "\xed\x9f\xbf", "\xf4\x80\x80\x80", "\xf0\x9f\x9f\xbfA"} {
		if !seen[s] {
			t.Errorf("%x is missing", s)
		}
	}
}

func TestBeside(t *testing.T) {
	got := trial.Collect(trial.Beside(slices.Values([]string{"a", "b", "c"})))
	if want := trial.Collect(slices.All([]string{"a", "b", "c"})); !slices.Equal(got, want) {
		t.Error(got)
	}
	for n, s := range trial.Beside(slices.Values([]string{"a", "b"})) {
		if n != 0 || s != "a" {
			t.Error(n, s)
		}
		break
	}
}

// An iterator that may not be must not pass.
func TestLeaveEarly(t *testing.T) {
	letters := []string{"a", "b", "c", "d", "e"}
	if wrong := trial.LeaveEarly(slices.All(letters)); wrong != "" {
		t.Error(wrong)
	}
	if trial.LeaveEarly(slices.All(letters[:3])) == "" {
		t.Error("too little passes")
	}
	goesOn := func(yield func(int, string) bool) {
		for i, s := range letters {
			yield(i, s)
		}
	}
	if trial.LeaveEarly(goesOn) == "" {
		t.Error("one that can't be left passes")
	}
	at := 0
	resumes := func(yield func(int, string) bool) {
		for ; at < len(letters); at++ {
			if !yield(at, letters[at]) {
				return
			}
		}
		at = 0
	}
	if trial.LeaveEarly(resumes) == "" {
		t.Error("one that goes on where it was left passes")
	}
}
