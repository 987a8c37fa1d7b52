package side

import "sync"

// made is what came of a number: an answer, or an error.
type made[T any] struct {
	number int
	answer T
	err    error
}

// crew of workers: numbers go to whoever is free, and what is made of them comes
// back.
type crew[T any] struct {
	numbers chan int
	done    chan made[T]
	workers sync.WaitGroup
}

// sideBySide answers what do makes of each number below n, in their order, or the
// first error in this order: who made it, and when, is not to be seen.
func sideBySide[T any](n, workers int, do func(number int) (T, error)) ([]T, error) {
	c := hire(workers, do)
	l := c.makeAll(n)
	c.dismiss()
	return answers(l)
}

func hire[T any](workers int, do func(number int) (T, error)) *crew[T] {
	c := &crew[T]{numbers: make(chan int), done: make(chan made[T])}
	c.workers.Add(workers)
	for range workers {
		go c.work(do)
	}
	return c
}

func (c *crew[T]) work(do func(number int) (T, error)) {
	defer c.workers.Done()
	for number := range c.numbers {
		answer, err := do(number)
		c.done <- made[T]{number: number, answer: answer, err: err}
	}
}

// makeAll numbers below n. What is made is taken as soon as it comes, also while
// numbers are left, so that no worker waits for one that waits for it.
func (c *crew[T]) makeAll(n int) []made[T] {
	l := make([]made[T], n)
	numbers := c.numbers
	for next, come := 0, 0; come < n; {
		if next == n {
			numbers = nil // nobody takes from it: the select goes on with what comes alone
		}
		select {
		case numbers <- next:
			next++
		case m := <-c.done:
			l[m.number] = m
			come++
		}
	}
	return l
}

// dismiss waits for all, so that nobody touches anything any more.
func (c *crew[T]) dismiss() {
	close(c.numbers)
	c.workers.Wait()
}

func answers[T any](l []made[T]) ([]T, error) {
	var out []T
	for _, m := range l {
		if m.err != nil {
			return nil, m.err
		}
		out = append(out, m.answer)
	}
	return out, nil
}
