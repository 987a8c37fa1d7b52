package side

import (
	"errors"
	"fmt"
	"runtime"
	"slices"
	"sync"
	"sync/atomic"
	"testing"
	"time"

	"causeway/api"
)

// TestCrewInOrder: answers of any kind, of each number once, in the order of the numbers.
func TestCrewInOrder(t *testing.T) {
	for workers := 1; workers <= api.Workers; workers++ {
		for _, n := range []int{0, 1, 2, 15, 16, 17, most} {
			asked := make([]atomic.Int64, n)
			l, err := sideBySide(n, workers, func(number int) (string, error) {
				asked[number].Add(1)
				for range (n - number) % 7 {
					runtime.Gosched() // so that later ones come first
				}
				return fmt.Sprint("n", number), nil
			})
			if err != nil || len(l) != n {
				t.Fatalf("%d by %d: %v, %v", n, workers, l, err)
			}
			for i, text := range l {
				if text != fmt.Sprint("n", i) || asked[i].Load() != 1 {
					t.Errorf("%d by %d: number %d is %q, made %d times", n, workers, i, text, asked[i].Load())
				}
			}
		}
	}
}

// TestCrewSideBySide: as many as there are workers are at work at once, and no more.
func TestCrewSideBySide(t *testing.T) {
	for workers := 1; workers <= api.Workers; workers++ {
		var all sync.WaitGroup
		all.Add(workers)
		var busy, top atomic.Int64
		l, err := sideBySide(4*workers, workers, func(number int) (int, error) {
			now := busy.Add(1)
			defer busy.Add(-1)
			for old := top.Load(); now > old && !top.CompareAndSwap(old, now); old = top.Load() {
			}
			if number < workers { // those go on as soon as all of them are here
				all.Done()
				all.Wait()
				time.Sleep(time.Millisecond) // so that one more, if there were one, would be seen
			}
			return number, nil
		})
		if err != nil || len(l) != 4*workers || top.Load() != int64(workers) {
			t.Errorf("by %d: %v, %v, %d at once", workers, l, err, top.Load())
		}
	}
}

// TestCrewFirstError: the first by number, though a later one comes first.
func TestCrewFirstError(t *testing.T) {
	for workers := 2; workers <= api.Workers; workers++ {
		later := make(chan int)
		l, err := sideBySide(5, workers, func(number int) (int, error) {
			switch number {
			case 1:
				<-later
				return 7, api.ErrOld
			case 3:
				close(later)
				return 7, api.ErrSum
			}
			return number, nil
		})
		if len(l) != 0 || !errors.Is(err, api.ErrOld) {
			t.Errorf("by %d: %v, %v", workers, l, err)
		}
	}
}

// TestCrewIsJoined: nobody is left behind.
func TestCrewIsJoined(t *testing.T) {
	before := runtime.NumGoroutine()
	var after atomic.Int64
	for range 50 {
		for _, n := range []int{0, 1, 40} {
			_, _ = sideBySide(n, api.Workers, func(number int) (int, error) {
				after.Add(1)
				return 0, []error{nil, api.ErrText}[number%2]
			})
		}
	}
	made := after.Load()
	// One that has said that it is done may take a moment to be gone.
	for range 1000 {
		if runtime.NumGoroutine() <= before {
			break
		}
		time.Sleep(time.Millisecond)
	}
	if n := runtime.NumGoroutine(); n > before {
		t.Errorf("%d are there, %d were", n, before)
	}
	if made != 50*41 || after.Load() != made {
		t.Errorf("%d made, then %d", made, after.Load())
	}
}

// TestCrewOfLists: an answer may be of any type.
func TestCrewOfLists(t *testing.T) {
	l, err := sideBySide(3, 2, func(number int) ([]int, error) { return slices.Repeat([]int{number}, number), nil })
	if err != nil || fmt.Sprint(l) != "[[] [1] [2 2]]" {
		t.Errorf("%v, %v", l, err)
	}
}
