package effect_test

import (
	"strings"
	"testing"

	"hornbook/api"
	"hornbook/effect"
	"hornbook/ins"
)

// What each instruction takes and leaves, as chapter 9's table says of it; of all others nothing.
func TestOf(t *testing.T) {
	want := map[string]string{
		"true": "-B", "false": "-B", "add": "II-I", "sub": "II-I", "mul": "II-I", "div": "II-I", "rem": "II-I", "neg": "I-I",
		"not": "B-B", "lt": "II-B", "le": "II-B", "eqi": "II-B", "eqb": "BB-B",
	}
	for op := -2; op < api.Ops+2; op++ {
		takes, leaves, ok := effect.Of(op)
		x, is := want[ins.Name(op)]
		if got := strings.Join(takes, "") + "-" + leaves; ok != is || ok && got != x || !ok && got != "-" {
			t.Errorf("Of(%d) = %q, %q, %v, want %q", op, takes, leaves, ok, x)
		}
	}
}

// What is written into an answer is seen by no later one.
func TestAnswersOfTheirOwn(t *testing.T) {
	takes, _, _ := effect.Of(api.Add)
	takes[0] = "S"
	if again, _, _ := effect.Of(api.Add); again[0] != "I" {
		t.Errorf("Of(add) = %q", again)
	}
}
