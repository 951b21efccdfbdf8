package check_test

import (
	"slices"
	"strings"
	"testing"

	"junto/api"
	"junto/check"
)

// P10.5

func numSlot(party int) api.Slot {
	return api.Slot{Party: party}
}

func bitSlot(party int) api.Slot {
	return api.Slot{Party: party, Bit: true}
}

func TestSlots(t *testing.T) {
	for _, x := range []struct {
		text string
		want []api.Slot
	}{
		{"", nil},
		{"let a = 1; out a to all;", nil},
		{"in a: num from 3;", []api.Slot{numSlot(3)}},
		{"in a: bit from 5;", []api.Slot{bitSlot(5)}},
		{"in a: word 3 from 1;", slices.Repeat([]api.Slot{bitSlot(1)}, 3)},
		{"in a: num[4] from 2;", slices.Repeat([]api.Slot{numSlot(2)}, 4)},
		{"in a: bit[2] from 2; let b = 1; in c: num from 1; if 1 == 1 { } in d: word 2[2] from 2;", []api.Slot{bitSlot(2), bitSlot(2), numSlot(1), bitSlot(2), bitSlot(2), bitSlot(2), bitSlot(2)}},
		{"def f() { in a: num from 1; return 1; } in b: num from 5; in a: bit from 4;", []api.Slot{numSlot(5), bitSlot(4)}},
		{"in a: word 16[16] from 5;", slices.Repeat([]api.Slot{bitSlot(5)}, 256)},
	} {
		if l, e := check.Slots(setup, parsed(t, x.text)); e != api.OK || !slices.Equal(l, x.want) {
			t.Errorf("Slots(%q) is %v with error %d", x.text, l, e)
		}
	}
}

func TestOuts(t *testing.T) {
	outputs(t, "")
	outputs(t, "let a = 1;")
	outputs(t, "out 1 to all; out 1 == 1 to 2; out [1, 2, 3] to 1, 2; out word(7, 1) to 5; out secret([word(3, 1)]) to all;", "num", "bit", "num[3]", "word 7", "secret word 3[1]")
	outputs(t, "for i = 5 to 1 { out i to all; out [i] to 1; for j = 1 to 9 { out j == i to all; } } out secret(1) to 1;", "num", "num[1]", "bit", "secret num")
	outputs(t, "if 1 == 2 { out 1 to all; } else { out 1 == 1 to all; if 2 == 2 { out [1] to all; } out [1, 2] to all; } out [1, 2, 3] to all;", "num", "bit", "num[1]", "num[2]", "num[3]")
	outputs(t, "def f(a: num) { out a to 9; return a; } out 1 to all;", "num")
	outputs(t, strings.Repeat("out 1 to all; ", 1000), slices.Repeat([]string{"num"}, 1000)...)
}
