package pick

import (
	"cornucopia/api"
	"cornucopia/edit"
)

const (
	mostScore = 1 << 40
	mostRooms = 1 << 56 // a hundred times as many is an int, and far above the greatest score
)

// Room tells how great a level may be.
func Room(level int) int {
	if level < 1 || level > api.Levels-1 {
		return 0
	}
	room := Base
	for range level - 1 {
		room *= 10
	}
	return room
}

// Score tells how full a level is.
func Score(v edit.Version, level int) int {
	if level < 0 || level > lowest {
		return 0
	}
	tables := on(v, level)
	if level == 0 {
		return min(100*len(tables)/Zero, mostScore)
	}
	return min(percent(tables, Room(level)), mostScore)
}

// percent tells how much of a room some tables take, rounded down. It counts by rooms: a sum of sizes, and a hundred times it, might wrap round.
func percent(l []api.Table, room int) int {
	rooms, rest := 0, 0
	for _, t := range l {
		rooms = max(min(rooms+t.Size/room, mostRooms), -mostRooms)
		rest += t.Size % room
	}
	return 100*rooms + floor(100*rest, room)
}

// floor tells a / b of a b above 0, rounded down where a is below 0 too.
func floor(a, b int) int {
	if a%b < 0 {
		return a/b - 1
	}
	return a / b
}
