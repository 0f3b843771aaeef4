package wang

import (
	"encaustic/api"
)

// isBoard tells whether a list is a board of a set of so many tiles.
func isBoard(board [][]int, tiles int) bool {
	if !isMeasure(len(board)) || !isMeasure(len(board[0])) {
		return false
	}
	for _, row := range board {
		if len(row) != len(board[0]) {
			return false
		}
		for _, i := range row {
			if i < 0 || i >= tiles {
				return false
			}
		}
	}
	return true
}

func isGood(set []api.Wang, board [][]int) bool {
	for y, row := range board {
		for x, i := range row {
			if x > 0 && set[row[x-1]].East != set[i].West {
				return false
			}
			if y > 0 && set[board[y-1][x]].South != set[i].North {
				return false
			}
		}
	}
	return true
}

// isClosed tells of a good board whether its borders agree too.
func isClosed(set []api.Wang, board [][]int) bool {
	for _, row := range board {
		if set[row[len(row)-1]].East != set[row[0]].West {
			return false
		}
	}
	lowest := board[len(board)-1]
	for x, i := range board[0] {
		if set[lowest[x]].South != set[i].North {
			return false
		}
	}
	return true
}
