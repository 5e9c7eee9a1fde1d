package files_test

import (
	"slices"
	"testing"

	"icehouse/api"
	"icehouse/files"
	"icehouse/simdisk"
)

func disk(t *testing.T) *simdisk.Disk {
	t.Helper()
	d, e := simdisk.New(1000)
	if e != api.OK {
		t.Fatal(e)
	}
	return d
}

func wantE(t *testing.T, what string, got, want api.Errno) {
	t.Helper()
	if got != want {
		t.Errorf("%s: %d, want %d", what, got, want)
	}
}

// has: what the file has; "-" where there is none.
func has(d *simdisk.Disk, name string) string {
	b, e := d.Read(name)
	if e != api.OK {
		return "-"
	}
	return string(b)
}

func TestReady(t *testing.T) {
	d := disk(t)
	wantE(t, "no disk", files.Ready(nil), api.ErrArg)
	wantE(t, "a disk that nobody made", files.Ready(&simdisk.Disk{}), api.ErrArg)
	wantE(t, "a disk", files.Ready(d), api.OK)
	wantE(t, "Create", d.Create("a"), api.OK)
	d.Cut(0)
	wantE(t, "it is no operation", files.Ready(d), api.OK)
	wantE(t, "SyncDir", d.SyncDir(), api.ErrPower)
	wantE(t, "without power", files.Ready(d), api.ErrPower)
	if !files.Has(d, "a") || files.Has(d, "b") || files.Has(nil, "a") {
		t.Error("Has")
	}
}

// TestWrite: a new file, in the place of an old one, too, wherever a failure stands.
func TestWrite(t *testing.T) {
	for _, old := range []string{"-", "old"} {
		for _, part := range []bool{false, true} {
			steps := 5
			if part {
				steps = 7
			}
			for k := 0; k <= steps+1; k++ {
				d := disk(t)
				if old != "-" {
					wantE(t, "Write", files.Write(d, "part", "a", []byte(old)), api.OK)
				}
				if part {
					wantE(t, "Create", d.Create("part"), api.OK)
					wantE(t, "Append", d.Append("part", []byte("some")), api.OK)
				}
				d.Fail(k, false)
				e, want := files.Write(d, "part", "a", []byte("new")), api.OK
				if k > 0 && k <= steps {
					want = api.ErrFault
				}
				wantE(t, "Write", e, want)
				now := has(d, "a")
				if done := k == 0 || k >= steps; done && now != "new" || !done && now != old {
					t.Errorf("%s, %v, %d: %q", old, part, k, now)
				}
				if want == api.OK && !slices.Equal(d.List(), []string{"a"}) {
					t.Error(d.List())
				}
				d.Crash(nil)
				if now = has(d, "a"); e == api.OK && now != "new" || e != api.OK && now != old {
					t.Errorf("%s, %v, %d: %q behind a crash", old, part, k, now)
				}
			}
		}
	}
}

func TestRemove(t *testing.T) {
	d := disk(t)
	wantE(t, "no disk", files.Remove(nil, "a"), api.ErrArg)
	wantE(t, "no file", files.Remove(d, "a"), api.ErrNone)
	wantE(t, "Write", files.Write(d, "part", "a", []byte("new")), api.OK)
	d.Fail(1, false)
	wantE(t, "the first step", files.Remove(d, "a"), api.ErrFault)
	if has(d, "a") != "new" {
		t.Error("it is gone")
	}
	d.Fail(2, false)
	wantE(t, "the second step", files.Remove(d, "a"), api.ErrFault)
	wantE(t, "it is gone", files.Remove(d, "a"), api.ErrNone)
	wantE(t, "Write", files.Write(d, "part", "a", nil), api.OK)
	wantE(t, "Remove", files.Remove(d, "a"), api.OK)
	d.Crash(nil)
	if has(d, "a") != "-" {
		t.Error("it came back")
	}
}
