package tree_test

import (
	"strconv"
	"testing"

	"undercroft/api"
)

// built is the account of what some calls make of a file system, unmounted: no system is asked for that.
func built(t testing.TB, a *account, calls ...api.Call) *account {
	t.Helper()
	for _, c := range calls {
		if got := a.do(c); got.Err != api.OK {
			t.Fatalf("%+v: %+v", shortCall(c), short(got))
		}
	}
	a.unmount()
	return a.again()
}

// town is: 2 /a, a file without bytes; 3 /b, of 3,000 bytes; 4 /c, of 100,001, a hole between its first three and its last one; 5 /d, a directory; 6 /d/e, a directory in it; 7 /d/f and /g, a file of 100 bytes; 8 /h, a directory with nothing in it; 9 /d/e/i, of 10 bytes; 10 /j, a directory that has had entries: a slot in its midst and one at its end are free; 11 /j/k and 13 /j/m, files in it. (12 is free.)
func town(t testing.TB, g api.Geometry) *account {
	t.Helper()
	return built(t, empty(g),
		opening("/a", nu), closing(0), opening("/b", nu), writing(0, sown(3, 3000)), closing(0),
		opening("/c", nu), writing(0, sown(4, 3)), seeking(0, 100000, 0), writing(0, sown(5, 1)), closing(0),
		making("/d"), making("/d/e"), opening("/d/f", nu), writing(0, sown(6, 100)), linking("/d/f", "/g"), closing(0), making("/h"),
		opening("/d/e/i", nu), writing(0, sown(7, 10)), closing(0), making("/j"), opening("/j/k", nu), closing(0), opening("/j/l", nu), closing(0), opening("/j/m", nu), closing(0), linking("/j/m", "/j/n"),
		unlinking("/j/l"), unlinking("/j/n"), renaming("/j/m", "/j/p"), renaming("/j/p", "/j/m"),
	)
}

// full is a directory all of whose slots have entries: n of them, its own two, and names of /j/m.
func full(t testing.TB, a *account, path string, n int) *account {
	t.Helper()
	calls := []api.Call{making(path)}
	for i := range n - 2 {
		calls = append(calls, linking("/j/m", path+"/n"+strconv.Itoa(i)))
	}
	return built(t, a, calls...)
}
