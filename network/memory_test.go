package network_test

import (
	"fmt"
	"reflect"
	"testing"

	"foliot/api"
	"foliot/network"
)

// someTexts are models, and texts that are none.
func someTexts() []string {
	w := newWriter(5)
	l := []string{"", "model m", "model m; clock x, y, z; clock u;", fullText, inProcess("loc A inv x == 1 && y == 1;"), inProcess("edge A -> A when x == 1 && y == 1;")}
	for range 100 {
		l = append(l, w.spread(w.model(w.anyModel())))
	}
	return l
}

// claim counts the places of the lists of a model, with what lies behind their lengths, that another list has already.
func claim(m *api.Model, known map[string]bool) int {
	shared := 0
	eachPartOf(m, func(_ string, v reflect.Value) {
		if v.Kind() != reflect.Slice {
			return
		}
		l := v.Slice(0, v.Cap())
		for k := range l.Len() {
			place := fmt.Sprint(l.Index(k).Addr().Pointer(), l.Type())
			if known[place] {
				shared++
			}
			known[place] = true
		}
	})
	return shared
}

// P11.2, rule R3: no two lists of results share memory.
func TestResultsHaveTheirOwnMemory(t *testing.T) {
	known := map[string]bool{}
	var kept []api.Model
	for _, text := range someTexts() {
		for range 2 {
			m, _, _ := network.Parse(text)
			kept = append(kept, m)
			if shared := claim(&kept[len(kept)-1], known); shared > 0 {
				t.Errorf("of the model of %.200q, %d places are shared", text, shared)
			}
		}
	}
}

// P11.1 to P11.3, rules R3 and R6: nothing of an earlier call is left, whatever has become of its results.
func TestCallsAreIndependent(t *testing.T) {
	resultOf := func(text string) (api.Model, string) {
		m, at, e := network.Parse(text)
		printed, printE := network.Print(m)
		return m, fmt.Sprintf("%+v %d %d %d %q %d", m, at, e, network.Form(m), printed, printE)
	}
	var want []string
	for _, text := range someTexts() {
		_, result := resultOf(text)
		want = append(want, result)
	}
	for k, text := range someTexts() {
		m, result := resultOf(text)
		if result != want[k] {
			t.Errorf("%.200q: %s, want %s", text, result, want[k])
		}
		eachPartOf(&m, func(_ string, v reflect.Value) {
			switch v.Kind() {
			case reflect.String:
				v.SetString("spoilt")
			case reflect.Int, reflect.Int64:
				v.SetInt(55)
			}
		})
		if _, again := resultOf(text); again != want[k] {
			t.Errorf("%.200q: results change with others", text)
		}
	}
}

// P11.1, P11.3, rule R3: models that are given are not changed, also behind the lengths of their lists.
func TestModelsAreNotChanged(t *testing.T) {
	m := full()
	eachPartOf(&m, func(_ string, v reflect.Value) {
		if v.Kind() == reflect.Slice && v.Len() > 0 {
			longer := reflect.Append(v, v.Index(0), reflect.New(v.Type().Elem()).Elem())
			v.Set(longer.Slice(0, v.Len()))
		}
	})
	before := withSpare(&m)
	for range 2 {
		checkForm(t, "a full model", m, api.OK)
		checkPrint(t, m, fullText)
		checkSame(t, "full ones", m, full(), true)
		if after := withSpare(&m); after != before {
			t.Fatalf("the model is changed: %s, not %s", after, before)
		}
	}
}

// withSpare returns a text of a model and of what lies behind the lengths of its lists.
func withSpare(m *api.Model) string {
	text := ""
	eachPartOf(m, func(path string, v reflect.Value) {
		if v.Kind() == reflect.Slice {
			text += fmt.Sprintf("%s %+v\n", path, v.Slice(0, v.Cap()))
		}
	})
	return text
}
