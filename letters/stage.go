package letters

import "sync"

// Each hands the letters of the pieces, read as one row of bytes, to take, in order. A goroutine reads them; it has ended when Each answers.
func Each(pieces []string, take func(rune)) {
	// Without room in the channel no letter can wait in it when the end is told, so that receive never has a choice between the two.
	letters := make(chan rune)
	end := make(chan struct{})
	var reading sync.WaitGroup
	reading.Go(func() {
		defer close(end)
		read(pieces, func(letter rune) { letters <- letter })
	})
	receive(letters, end, take)
	reading.Wait()
}

func receive(letters <-chan rune, end <-chan struct{}, take func(rune)) {
	for {
		select {
		case letter := <-letters:
			take(letter)
		case <-end:
			return
		}
	}
}

func read(pieces []string, send func(rune)) {
	clean := cleaner{send: send}
	decode := decoder{put: clean.put}
	for _, piece := range pieces {
		for i := range len(piece) {
			decode.take(piece[i])
		}
	}
	decode.end()
}
