package tests

import (
	"fmt"
	"math"
	"slices"
	"strings"
	"testing"

	"loop.example/g03320/impl"
)

// holdsRecord asks for the text of a record, which is read as the same record.
func holdsRecord(t *testing.T, r impl.Record, text string) {
	t.Helper()
	if got := impl.FormatRecord(r); got != text {
		t.Errorf("FormatRecord(%v) = %q; want %q", r, got, text)
	}
	if got, ok := impl.ParseRecord(text); got != r || !ok {
		t.Errorf("ParseRecord(%q) = %v, %v; want %v", text, got, ok, r)
	}
}

func TestRecordsAreWrittenAndRead(t *testing.T) {
	holdsRecord(t, impl.Record{}, "0 0 0 0")
	holdsRecord(t, recordOf(5, 11, 32767, -32767), "5 11 32767 -32767")
	holdsRecord(t, recordOf(0, 2, -32767, 32767), "0 2 -32767 32767")
	holdsRecord(t, recordOf(3, 10, -1, 1), "3 10 -1 1")
	for meter := range 6 {
		for at := range 12 {
			for _, re := range []int{0, 1, -1, 9, -10, 100, 12345, -32766, 32766, 32767, -32767} {
				for _, im := range []int{0, 7, -7, 32767, -32767} {
					holdsRecord(t, recordOf(meter, at, re, im), fmt.Sprint(meter, " ", at, " ", re, " ", im))
				}
			}
		}
	}
}

// holdsNoRecord asks for a zero record and false.
func holdsNoRecord(t *testing.T, text string) {
	t.Helper()
	if got, ok := impl.ParseRecord(text); got != (impl.Record{}) || ok {
		t.Errorf("ParseRecord(%q) = %v, %v", text, got, ok)
	}
}

// TestRecordsBeyondTheLimits have no text, and the texts that they would have are not read.
func TestRecordsBeyondTheLimits(t *testing.T) {
	var out []impl.Record
	for _, n := range []int{-1, -2, 6, 7, 12, math.MinInt, math.MaxInt} {
		out = append(out, recordOf(n, 1, 2, 3))
	}
	for _, n := range []int{-1, -2, 12, 13, 100, math.MinInt, math.MaxInt} {
		out = append(out, recordOf(1, n, 2, 3))
	}
	for _, n := range noCodes() {
		out = append(out, recordOf(1, 1, n, 3), recordOf(1, 1, 2, n), recordOf(1, 1, n, n))
	}
	for _, r := range out {
		if got := impl.FormatRecord(r); got != "" {
			t.Errorf("FormatRecord(%v) = %q", r, got)
		}
		holdsNoRecord(t, fmt.Sprint(r.Meter, " ", r.At, " ", r.Re, " ", r.Im))
	}
}

func TestTextsThatAreNoRecords(t *testing.T) {
	for _, text := range []string{
		"", " ", "0", "0 0", "0 0 0", "0 0 0 0 0", "1 2 3", "1 2 3 4 5", "1 2 3 ", " 1 2 3", "    ", "0 0 0 0\n", "0\t0 0 0", "0 0 0 0\x00", "\xff0 0 0 0",
		" 1 2 3 4", "1 2 3 4 ", "1  2 3 4", "1 2  3 4", "1 2 3  4", "1 2 3 4  ", "1,2,3,4", "1 2 3 x", "x 2 3 4", "1 2 3 4x", "1 2 3 0x4", "1 2 3 4.0", "1 2 3 1e3", "1 2 3 1_0", "1234", "1 2 3 -", "1 2 3 --4", "1 2 3 +-4", "1 2 3 nan",
		"1 2 3 99999999999999999999", "1 2 3 -99999999999999999999", "1 2 3 18446744073709551616", "4294967296 2 3 4", "1 4294967296 3 4", "1 2 4294967299 4", strings.Repeat("1 2 3 4 ", 1000), "1 2 3 " + strings.Repeat("0", 600) + "4", strings.Repeat(" ", 700),
	} {
		holdsNoRecord(t, text)
	}
	// Other texts of the same numbers, at each place.
	for place := range 4 {
		for _, other := range []string{"00", "-0", "+0", "01", "+1", "-01", "007", "0x1", "", " ", "1.", "٣"} {
			fields := []string{"1", "2", "3", "4"}
			fields[place] = other
			holdsNoRecord(t, strings.Join(fields, " "))
		}
	}
	for _, text := range []string{"-1 2 3 4", "1 -2 3 4"} {
		holdsNoRecord(t, text)
	}
	holdsRecord(t, recordOf(1, 2, -3, -4), "1 2 -3 -4")
}

func TestNewLog(t *testing.T) {
	for _, n := range []int{0, 1, 2, 30, 59, 60} {
		b := benchWith(func(b *impl.Bench) { b.Log = nil })
		for i := range n {
			b.Log = append(b.Log, recordOf(i%2, 0, i, -i))
		}
		for before := range n + 1 {
			if got := impl.NewLog(b, before); !slices.Equal(got, b.Log[before:]) {
				t.Errorf("NewLog from %d of %d: %v", before, n, got)
			}
		}
		for _, before := range []int{-1, -2, n + 1, n + 2, 100, math.MinInt, math.MaxInt} {
			if got := impl.NewLog(b, before); got != nil {
				t.Errorf("NewLog from %d of %d: %v", before, n, got)
			}
		}
	}
	for _, b := range faultyBenches() {
		for _, before := range []int{0, 1, -1, len(b.Log)} {
			if got := impl.NewLog(b, before); got != nil {
				t.Errorf("NewLog(%v, %d) = %v", b, before, got)
			}
		}
	}
}
