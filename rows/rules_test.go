package rows_test

import (
	"slices"
	"strings"
	"testing"

	"furrow/api"
	"furrow/rows"
	"furrow/trial"
)

// P0.1, P6.6: an iterator that is left early and gone over again.
func TestRunesLeftEarly(t *testing.T) {
	for _, list := range [][]api.Row{
		{row(0x41, 0x44)}, {row(0x41, 0x41), row(0x42, 0x42), row(0x43, 0x43), row(0x44, 0x44)}, {row(-5, 2), row(5, 4), row(1, 2), row(api.MaxRune-1, api.MaxRune+9), row(7, 7)},
	} {
		if wrong := trial.LeaveEarly(rows.Runes(list)); wrong != "" {
			t.Errorf("Runes of %v: %s", list, wrong)
		}
	}
}

// P0.1, P6.6: what an iterator tells is what was handed in, whatever becomes of the list then.
func TestRunesDoesNotKeep(t *testing.T) {
	list := []api.Row{row(0x41, 0x43), row(0x50, 0x52)}
	want := trial.Collect(rows.Runes(list))
	seq := rows.Runes(list)
	var got []told
	for r, of := range seq {
		got = append(got, told{A: r, B: of})
		clear(list)
	}
	if !slices.Equal(got, want) || !slices.Equal(trial.Collect(seq), want) {
		t.Errorf("%v, not %v", got, want)
	}
}

// P0.1: what is handed in is not changed, spare room included, and not kept.
func TestArgumentsStay(t *testing.T) {
	list := []api.Row{row(0x41, 0x43), row(0x50, 0x52), row(0x51, 0x51), row(0x60, 0x59), row(-1, 3)}
	before := slices.Clone(list)
	for size := range len(list) + 1 {
		rows.Check(list[:size]...)
		rows.Print(list[:size]...)
		rows.Find(list[:size], 0x51)
		trial.Collect(rows.Runes(list[:size]))
		if !slices.Equal(list, before) {
			t.Fatalf("changed to %v", list)
		}
	}
	fields := lineOf(rightLine + ";x;y").Fields
	kept := slices.Clone(fields)
	l := api.Line{Kind: api.LineData, Fields: fields[:15]}
	got, _ := rows.Scan(l)
	if !slices.Equal(fields, kept) {
		t.Errorf("changed to %q", fields)
	}
	clear(fields)
	if got.Name != "A" || got.Cat != "Lu" {
		t.Errorf("kept: %v", got)
	}
}

// P0.1: a list that was answered and is changed changes no later answer.
func TestAnswersAreNew(t *testing.T) {
	s := text(one("0041", "A", "L"), first("0042", "B"), last("0045", "B"), one("0046", "C", "L"))
	want := []api.Row{rowOf(1, 0x41, 0x41, "A"), rowOf(2, 0x42, 0x45, "B"), rowOf(4, 0x46, 0x46, "C")}
	before, _ := rows.Read("f", s)
	changed, _ := rows.Read("f", s)
	clear(changed[:cap(changed)])
	again, err := rows.Read("f", s)
	if err != nil || !slices.Equal(before, want) || !slices.Equal(again, want) {
		t.Errorf("%v, then %v, %v", before, again, err)
	}
	seq := rows.Runes(again)
	told := trial.Collect(seq)
	clear(told)
	if len(trial.Collect(seq)) != 6 || trial.Collect(seq)[0].A != 0x41 {
		t.Error("Runes tells something else")
	}
}

// P0.1: calls end with any fields, names and texts, and hang on their arguments alone.
func TestAnyBytes(t *testing.T) {
	for s := range trial.Texts() {
		_, line, why := readOf(s)
		isRead(t, s, s, nil, line, why)
	}
	for _, s := range trial.LongTexts() {
		l := api.Line{Kind: api.LineData, Fields: slices.Repeat([]string{s}, 15)}
		if got, why := rows.Scan(l); got != (api.Row{}) || why != api.ErrHex {
			t.Errorf("Scan of %q = %v, %d", s, got, why)
		}
		r := row(0x41, 0x41)
		r.Name, r.Cat = s, s
		if why := rows.Check(r); why != api.ErrArg {
			t.Errorf("Check of %q = %d", s, why)
		}
	}
}

// P0.1: many rows, and names of many bytes.
func TestLongTexts(t *testing.T) {
	const many = 1 << 16
	var s strings.Builder
	for point := range many / 2 {
		s.WriteString(one(digits(point), "A", "L") + "\n\n")
	}
	for point := many / 2; point < many; point += 2 {
		s.WriteString(text(first(digits(point), "B"), last(digits(point+1), "B")) + "\r\n")
	}
	read, err := rows.Read("f", s.String())
	if err != nil || len(read) != many/4*3 || read[len(read)-1] != rowOf(many/2*3-1, many-2, many-1, "B") {
		t.Fatalf("Read: %d rows, %v", len(read), err)
	}
	if wrote, why := rows.Print(read...); why != api.OK || strings.Count(wrote, "\n") != many {
		t.Errorf("Print: %d", why)
	}
	if got := len(trial.Collect(rows.Runes(read))); got != many {
		t.Errorf("Runes: %d", got)
	}
	s.WriteString(one("0041", "A", "L"))
	isRead(t, "f", s.String(), nil, many/2*3+1, api.ErrRising)
	long := row(0x41, 0x41)
	for _, name := range []string{strings.Repeat("A", 1<<22), strings.Repeat("<A, First>", 1<<18), strings.Repeat(one("0042", "A", "L")+"\n", 1<<12)} {
		long.Name = name
		if why := rows.Check(row(0x40, 0x40), long); why != api.ErrArg {
			t.Errorf("Check: %d", why)
		}
	}
}

// The numbers that layer 6 owns.
func TestErrors(t *testing.T) {
	got := []api.Errno{api.ErrCells, api.ErrName, api.ErrRising, api.ErrCat, api.ErrComb, api.ErrMap, api.ErrFlag, api.ErrPair}
	for i, why := range got {
		if int(why) != 60+i {
			t.Error(i, int(why))
		}
	}
}
