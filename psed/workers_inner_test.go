package psed

import (
	"strings"
	"testing"
	"testing/synctest"
)

// manyFiles are files that put out more than their outlets hold.
func manyFiles(number int) []File {
	files := make([]File, number)
	for i := range files {
		files[i].Data = strings.Repeat("x\n", 100)
	}
	return files
}

// waiting is how many pieces wait in each file's outlet.
func waiting(r *run) []int {
	var pieces []int
	for _, p := range r.passages {
		pieces = append(pieces, len(p.pieces))
	}
	return pieces
}

// As many files are worked on as there are workers, and each waits when its
// outlet is full.
func TestFilesFarAheadWait(t *testing.T) {
	for workers := 1; workers <= maxWorkers; workers++ {
		for _, buffer := range []int{1, 2, maxBuffer} {
			synctest.Test(t, func(t *testing.T) {
				r := newRun(Job{Workers: workers, Buffer: buffer, Files: manyFiles(maxFiles)}, nil)
				all := r.start()
				for range 2 {
					synctest.Wait()
					for i, n := range waiting(r) {
						if i < workers && n != buffer || i >= workers && n != 0 {
							t.Errorf("with %d workers and %d pieces, %v wait", workers, buffer, waiting(r))
							break
						}
					}
					<-r.passages[0].pieces // makes room for one more
				}
				close(r.over)
				all.Wait()
			})
		}
	}
}

// A worker goes on to its next file when all of its last one is put out, whether
// that is taken or not.
func TestWorkersGoOn(t *testing.T) {
	synctest.Test(t, func(t *testing.T) {
		files := manyFiles(7)
		files[0].Data, files[1].Bad, files[3].Data = "a\nb\n", true, ""
		r := newRun(Job{Workers: 2, Buffer: 3, Files: files}, nil)
		all := r.start()
		synctest.Wait()
		want := []int{2, 0, 3, 0, 0, 3, 0}
		for i, n := range waiting(r) {
			if n != want[i] {
				t.Errorf("%v wait, want %v", waiting(r), want)
				break
			}
		}
		close(r.over)
		all.Wait()
	})
}

// isClosed tells whether nothing is sent any more, when all is taken.
func isClosed(pieces chan output) bool {
	for {
		select {
		case _, open := <-pieces:
			if !open {
				return true
			}
		default:
			return false
		}
	}
}

// When a run has ended, each file has been left by its worker, at whichever file
// it ended.
func TestAllFilesAreLeft(t *testing.T) {
	for _, script := range []string{"1q", "/y/Q", "p\np", ":a\n/y/q\nb a", "/y/q\n:a\ns/x/&/\nb a"} {
		for at := range maxFiles {
			files := manyFiles(maxFiles)
			files[at].Data = "y"
			commands := readScript(script)
			for _, workers := range []int{1, 2, 5, maxWorkers} {
				r := newRun(Job{Workers: workers, Buffer: 1, Fuel: 5000, Files: files}, commands)
				r.edit(newRecord(commands))
				for i, p := range r.passages {
					if !isClosed(p.pieces) {
						t.Errorf("%q with %d workers: file %d is not left", script, workers, i)
					}
				}
			}
		}
	}
}

// A run that is over stops a file that has not begun, and one that puts nothing
// out.
func TestRunIsOver(t *testing.T) {
	commands := readScript(":a\nb a")
	r := newRun(Job{Workers: 3, Buffer: 1, Fuel: 5000, Files: manyFiles(maxFiles)}, commands)
	close(r.over)
	r.start().Wait()
	for i, p := range r.passages {
		if !isClosed(p.pieces) || p.why != "" {
			t.Errorf("file %d ended by %q", i, p.why)
		}
	}
	e := newEditor(r.job, commands, &r.passages[0])
	if why := caught[stop](e.edit); why != runIsOver || e.fuel != 5000 {
		t.Errorf("the editor gave up by %q, with fuel %d", why, e.fuel)
	}
	e = newEditor(r.job, nil, &passage{File: r.job.Files[0], outlet: outlet{make(chan output), r.over}})
	if why := caught[stop](e.edit); why != runIsOver {
		t.Errorf("the editor that puts something out gave up by %q", why)
	}
}
