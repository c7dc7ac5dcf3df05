package mean_test

import (
	"slices"
	"testing"

	"hearth/api"
	"hearth/bind"
	"hearth/kind"
	"hearth/mean"
)

// P6.5: a program of a module that has types never has a task that is stuck.
func TestKinds(t *testing.T) {
	d := newDice(4)
	met := map[int]int{}
	for range 900 {
		m := d.module(t, pick(d, 0, 0, 40))
		if kind.Module(m) != api.OK {
			continue
		}
		p, e := bind.Bind(m)
		if e != api.OK {
			t.Fatal(show(m), "has types, but cannot be bound:", e)
		}
		w, e := mean.Start(p, d.ins())
		if e != api.OK {
			continue
		}
		for range 4 {
			v, events, e := mean.Play(p, w, d.picks(50))
			if e != api.OK {
				break
			}
			w = v
			for _, event := range events {
				if event.Do == 0 {
					met[event.N]++
				}
			}
		}
		for _, n := range w.Tasks {
			if w.Objs[n].N == api.MeanStuck {
				t.Fatal(show(m), show(w), "has a task that is stuck")
			}
		}
	}
	for state, least := range map[int]int{api.MeanDone: 300, api.MeanLoose: 50, api.MeanFull: 5} {
		if met[state] < least {
			t.Error("state", state, met[state])
		}
	}
}

// P6.5: what has no types can be stuck, by the picks, the inputs, or in any case.
func TestWithoutKinds(t *testing.T) {
	for body, want := range map[string]string{
		"1 + true": "0 stuck",
		"let c = cell(1) in let t = spawn(fun v => put(c, true)) in let x = pause in get(c) + 1":  "0 cell 1; 0 spawn (); 1 put true; 0 pause (); 0 get true; 0 stuck; 1 done ()",
		"let c = chan in let x = if input == 1 then send(c, 1) else send(c, main) in take(c) * 2": "0 chan (); 0 in 2; 0 send *; 0 take *; 0 stuck",
		"let t = spawn(fun v => if v then 1 else 2) in join(t)":                                   "0 spawn (); 1 stuck; 0 stuck",
		"reset(match (shift k => k Pair(1, 2)) { Pair(a, b) -> if a then b else a | Nil -> 3 })":  "0 stuck",
	} {
		m := moduleOf(t, mainWith("", body))
		if kind.Module(m) != api.ErrRule {
			t.Error(body, "has types")
		}
		p := boundOf(t, mainWith("", body))
		if _, events := played(t, p, started(t, p, 2), 0, 0, 1, 0, 0, 0, 0); events != want {
			t.Error(body, events)
		}
	}
}

// P6.6: outputs, and inputs that were used, only become more.
func TestOutputs(t *testing.T) {
	p := boundOf(t, mainWith("fun f(n : int) : int = let x = input in let y = out(2, x * 10 + n) in f (3 - n);", "let t = spawn(fun u => f 0) in f 1"))
	w := started(t, p, 1, 2, 3, 4, 5, 6)
	used, last := 0, w
	for _, pick := range newDice(5).picks(1000)[:60] {
		v, event, _, e := mean.Turn(p, last, pick)
		if e == api.ErrNone {
			break
		}
		if e != api.OK || !follows(last, v) {
			t.Fatal(show(last), show(v), e)
		}
		if event.Do == api.TermIn {
			used++
		}
		if v.Used != used || len(v.Ins) != 6-used || event.Do == api.TermOut && v.Outs[len(v.Outs)-1] != (api.MeanOut{Port: event.N, N: event.V.N}) {
			t.Fatal(eventText(event), show(v))
		}
		last = v
	}
	if used != 6 || len(last.Outs) != 6 {
		t.Error(show(last))
	}
	var tens []int
	for _, o := range last.Outs {
		tens = append(tens, o.N/10)
	}
	if slices.Sort(tens); !slices.Equal(tens, []int{1, 2, 3, 4, 5, 6}) {
		t.Error(tens)
	}
}
