package snap

// message is what waits in a channel.
type message interface {
	// shown is the number by which Waiting shows the message.
	shown() int
}

// parcel is pieces, with the clock that the sender had after it had sent them.
type parcel struct {
	pieces int
	clock  clock
}

// marker says that its sender has recorded for the snapshot with this number.
type marker struct{ no int }

func (p parcel) shown() int { return p.pieces }

func (m marker) shown() int { return -m.no }
