// Package whole holds the tests of what is promised of the program as a whole: that frames come back as they were, and that whatever bytes a reader is handed, it ends.
package whole
