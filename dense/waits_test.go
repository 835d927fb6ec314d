package dense_test

import (
	"testing"

	"foliot/api"
)

// P14.2, P14.3, P14.4: the chapter's examples.
func TestExample(t *testing.T) {
	n := compiled(t, example)
	s := first(t, n)
	checkMost(t, "the beginning", n, s, read("2"), true, false, api.OK)
	checkEnabled(t, "the beginning", n, s)
	checkText(t, "Wait of 3", wait(t, n, s, read("3")), "error 9")
	checkText(t, "Wait of 1/2", wait(t, n, s, read("1/2")), "[0] [] [1/2]")
	checkEnabled(t, "at 1/2", n, at(t, n, "1/2"))
	checkText(t, "Wait of 3/2", wait(t, n, s, read("3/2")), "[0] [] [3/2]")
	s = at(t, n, "3/2")
	checkEnabled(t, "at 3/2", n, s, 0)
	checkText(t, "Act of 0", act(t, n, s, 0), "[1] [] [0]")
	checkText(t, "Act of 1", act(t, n, s, 1), "error 4")
	s = in(t, n, []int{1}, "0")
	checkMost(t, "behind it", n, s, api.Ratio{}, false, true, api.OK)
	checkText(t, "Wait of 3 behind it", wait(t, n, s, read("3")), "[1] [] [3]")
	checkEnabled(t, "at 3", n, in(t, n, []int{1}, "3"))
	checkText(t, "Wait of 10/3 behind it", wait(t, n, s, read("10/3")), "[1] [] [10/3]")
	checkEnabled(t, "at 10/3", n, in(t, n, []int{1}, "10/3"), 0)
}

// P14.2: waits that are possible, and those that are not.
func TestWait(t *testing.T) {
	const greatest = "2147483647"
	for _, c := range []struct{ net, clocks, by, want string }{
		{"loc A;", "0 0", "1/3", "[0] [0] [1/3 1/3]"},
		{"loc A;", "1/2 3/4", "1/4", "[0] [0] [3/4 1]"},
		{"loc A;", "5 0", greatest, "error 7"},
		{"loc A;", "0 5", greatest, "error 7"},
		{"loc A;", "0 0", greatest, "[0] [0] [" + greatest + " " + greatest + "]"},
		{"loc A;", "2147483646 0", "1", "[0] [0] [" + greatest + " 1]"},
		{"loc A;", "0 1/2", "1/" + greatest, "error 7"},
		{"loc A;", "0 1/" + greatest, "2147483646/" + greatest, "[0] [0] [2147483646/" + greatest + " 1]"},
		{"loc A inv x <= 2;", "0 7", "2", "[0] [0] [2 9]"},
		{"loc A inv x <= 2;", "0 0", "2147483647/1073741823", "error 9"},
		{"loc A inv x <= 2;", "0 0", "2147483645/1073741823", "[0] [0] [2147483645/1073741823 2147483645/1073741823]"},
		{"loc A inv x < 2;", "0 0", "2", "error 9"},
		{"loc A inv x < 2;", "1/2 0", "3/2", "error 9"},
		{"loc A inv x < 2;", "1/2 0", "4/3", "[0] [0] [11/6 4/3]"},
		{"loc A inv x <= 2 && y < 5;", "0 4", "1", "error 9"},
		{"loc A inv x <= 2 && y < 5;", "2 4", "1/9", "error 9"},
		{"loc A inv x <= 2 && y < 5;", "1 3", "1", "[0] [0] [2 4]"},
		{"loc A inv x <= 9 && x < 2 && x <= 5;", "0 0", "2", "error 9"},
		{"loc B; loc A inv y <= 1048576;", "0 0", "1048576", "[1] [0] [1048576 1048576]"},
		{"loc B; loc A inv y <= 1048576;", "0 0", "1048577", "error 9"},
		{"loc A; loc B inv x <= 0;", "0 0", "1", "[0] [0] [1 1]"},
	} {
		n := compiled(t, inProcess(c.net))
		checkText(t, c.net+" "+c.clocks+" by "+c.by, wait(t, n, at(t, n, c.clocks), read(c.by)), c.want)
	}
	n := compiled(t, withOther("loc A inv x <= 2;", "loc A inv x < 2;"))
	checkText(t, "two processes", wait(t, n, first(t, n), read("2")), "error 9")
	checkText(t, "two processes", wait(t, n, first(t, n), read("1")), "[0 0] [0] [1 1]")
}

// P14.2: what is no wait: in the first place, whatever else could be said.
func TestWrongWaits(t *testing.T) {
	for _, text := range []string{"loc A;", "loc A inv x <= 2;", "loc A urgent;", "loc A committed inv x <= 2;"} {
		n := compiled(t, inProcess(text))
		s := at(t, n, "2 2147483647")
		for _, by := range append(wrong(), read("-1"), read("-1/2"), read("-2147483647")) {
			checkText(t, text, wait(t, n, s, by), "error 2")
		}
	}
}

// P14.2, P14.3: time may not pass in urgent and committed locations, and where something can be sent on an urgent channel.
func TestStill(t *testing.T) {
	for text, isStill := range map[string]bool{
		inProcess("loc A;"):                                                              false,
		inProcess("loc A urgent;"):                                                       true,
		inProcess("loc A committed;"):                                                    true,
		inProcess("loc A inv y <= 9; loc B urgent;"):                                     false,
		withOther("loc A inv x < 1;", "loc A urgent inv y <= 9;"):                        true,
		inProcess("loc A; edge A -> A sync g!;"):                                         true,
		inProcess("loc A; edge A -> A if v sync g!;"):                                    false,
		inProcess("loc A; edge A -> A sync b!;"):                                         false,
		withOther("loc A; edge A -> A sync u!;", "loc A; edge A -> A sync u?;"):          true,
		withOther("loc A; edge A -> A sync u!;", "loc A; edge A -> A sync a?;"):          false,
		withOther("loc A; edge A -> A sync u! do v = 3;", "loc A; edge A -> A sync u?;"): true,
	} {
		n := compiled(t, text)
		for _, clocks := range []string{"0 0", "1/2 3", "0 9"} {
			s := at(t, n, clocks)
			checkText(t, text+": no wait", wait(t, n, s, read("0")), stateText(s))
			if !isStill {
				continue
			}
			checkMost(t, text, n, s, read("0"), true, false, api.OK)
			for _, by := range []string{"1/4", "1", "9", "2147483647", "1/2147483647"} {
				checkText(t, text+": Wait of "+by, wait(t, n, s, read(by)), "error 9")
			}
		}
		if !isStill {
			checkText(t, text, wait(t, n, first(t, n), read("1/2")), stateText(in(t, n, first(t, n).D.Locs, "1/2 1/2")))
		}
	}
}

// P14.2: ErrRange comes before what the invariant says, and behind time that may not pass; it is told of each clock.
func TestWaitOutOfRange(t *testing.T) {
	for _, clocks := range []string{"0 1", "1 0", "1 1/2", "1/3 1"} {
		for text, want := range map[string]string{"loc A;": "error 7", "loc A inv x <= 2 && y <= 2;": "error 7", "loc A urgent inv x <= 2;": "error 9"} {
			n := compiled(t, inProcess(text))
			checkText(t, text+" "+clocks, wait(t, n, at(t, n, clocks), read("2147483647")), want)
		}
	}
	n := compiled(t, inProcess("loc A inv x <= 2 && y <= 2;"))
	checkText(t, "no sum", wait(t, n, first(t, n), read("2147483647")), "error 9")
	checkText(t, "small parts", wait(t, n, at(t, n, "1 1/2"), read("1/2147483647")), "error 7")
	checkText(t, "small parts", wait(t, n, at(t, n, "1 1"), read("1/2147483647")), "error 7")
	checkText(t, "nothing", wait(t, n, at(t, n, "1/2147483647 1/2"), read("0")), "[0] [0] [1/2147483647 1/2]")
}

// P14.3: how long a state may wait.
func TestMost(t *testing.T) {
	for _, c := range []struct {
		net, clocks, by string
		attained        bool
	}{
		{"loc A inv x <= 2;", "0 0", "2", true},
		{"loc A inv x < 2;", "0 0", "2", false},
		{"loc A inv x <= 2;", "2 0", "0", true},
		{"loc A inv x <= 0;", "0 5", "0", true},
		{"loc A inv x <= 2;", "3/4 7", "5/4", true},
		{"loc A inv x < 2;", "3/4 7", "5/4", false},
		{"loc A inv x <= 5 && y < 3;", "0 0", "3", false},
		{"loc A inv x <= 5 && y < 3;", "4 1", "1", true},
		{"loc A inv x < 5 && y <= 3;", "4 1", "1", false},
		{"loc A inv x <= 5 && y < 3;", "4 2", "1", false},
		{"loc A inv x < 5 && y <= 3;", "4 2", "1", false},
		{"loc A inv x <= 5 && y <= 3;", "4 2", "1", true},
		{"loc A inv x < 5 && y < 3;", "4 2", "1", false},
		{"loc A inv x <= 5 && x < 5 && x <= 5;", "0 0", "5", false},
		{"loc A inv x < 7 && x <= 5 && x < 6;", "0 0", "5", true},
		{"loc A inv x <= 7 && x < 5 && x <= 6;", "0 0", "5", false},
		{"loc A inv x <= 7 && x <= 6 && x <= 5;", "0 0", "5", true},
		{"loc A inv x < 7 && x < 6 && x <= 5;", "1/3 0", "14/3", true},
		{"loc A inv x <= 1048576;", "0 0", "1048576", true},
		{"loc A inv x < 1048576;", "1 2147483647", "1048575", false},
		{"loc A inv x <= 1;", "1/2147483647 1/2", "2147483646/2147483647", true},
		{"loc B; loc A inv y <= 3;", "9 1", "2", true},
	} {
		n := compiled(t, inProcess(c.net))
		checkMost(t, c.net, n, at(t, n, c.clocks), read(c.by), c.attained, false, api.OK)
	}
	for _, text := range []string{"loc A;", "loc A; loc B inv x <= 2;", "loc B urgent; loc A;"} {
		n := compiled(t, inProcess(text))
		checkMost(t, text, n, at(t, n, "2147483647 1/2147483647"), api.Ratio{}, false, true, api.OK)
	}
	n := compiled(t, withOther("loc A inv x <= 5;", "loc A inv y < 4;"))
	checkMost(t, "two processes", n, at(t, n, "0 0"), read("4"), false, false, api.OK)
	checkMost(t, "two processes", n, at(t, n, "3 0"), read("2"), true, false, api.OK)
}

// P14.3: ErrRange if any difference is no valid number, but not if time may not pass.
func TestMostOutOfRange(t *testing.T) {
	for _, text := range []string{"inv x <= 2;", "inv y <= 0 && x <= 2;", "inv x < 2 && y <= 0;", "inv x <= 1 && x <= 2;", "inv x <= 2 && x <= 1;", "inv x <= 2; loc B urgent;"} {
		n := compiled(t, inProcess("loc A "+text))
		checkMost(t, text, n, at(t, n, "1/2147483647 0"), api.Ratio{}, false, false, api.ErrRange)
	}
	for text, want := range map[string]string{"inv x <= 1;": "2147483646/2147483647", "inv y <= 2;": "2", "urgent inv x <= 2;": "0"} {
		n := compiled(t, inProcess("loc A "+text))
		checkMost(t, text, n, at(t, n, "1/2147483647 0"), read(want), true, false, api.OK)
	}
}
