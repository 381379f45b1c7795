package letters

import "sync"

// OfBytes lets next go through the letters of the pieces, read as one row of bytes.
func OfBytes(pieces []string, next func(*Row)) {
	run(func(send func(rune)) { read(pieces, send) }, next)
}

// OfText lets next go through the letters of a text as they are; bytes that are none are a substitute each.
func OfText(text string, next func(*Row)) {
	run(func(send func(rune)) {
		for _, letter := range text {
			send(letter)
		}
	}, next)
}

// run has a goroutine read, which has ended when run answers.
func run(read func(send func(rune)), next func(*Row)) {
	// Without room in the channel no letter can wait in it when the end is told, so that a row never has a choice between the two.
	letters := make(chan rune)
	end := make(chan struct{})
	var reading sync.WaitGroup
	reading.Go(func() {
		defer close(end)
		read(func(letter rune) { letters <- letter })
	})
	row := &Row{letters: letters, end: end}
	next(row)
	row.drain()
	reading.Wait()
}

func read(pieces []string, send func(rune)) {
	clean := cleaner{send: send}
	decode := decoder{put: clean.put}
	for _, piece := range pieces {
		for i := range len(piece) {
			decode.take(piece[i])
		}
	}
	decode.end()
}
