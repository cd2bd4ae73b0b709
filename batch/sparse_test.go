package batch

import (
	"fmt"
	"runtime"
	"strings"
	"testing"

	"thicket/api"
)

// Labels, and what stands behind them: as it should be, with and without lost.
func TestLines(t *testing.T) {
	for s, x := range map[string][]float64{
		"1": {0, 0, 0}, "1 1:5": {5, 0, 0}, "1 3:5": {0, 0, 5}, "1 1:1 2:2 3:3": {1, 2, 3}, "1 1 : 1 3: 3 # 2:7": {1, 0, 3}, "\t1\t2:-0 ": {0, minus0, 0}, "1 2:0": {0, 0, 0}, "1 2:nan 3:inf": {0, nan, endless}, "1 1:-inf": {-endless, 0, 0}, "1 2:0x1p-1": {0, 0.5, 0}, "1#1:1": {0, 0, 0},
	} {
		says(t, "17.3: "+s, sparse(s, 3, false), [][]float64{x}, 1)
	}
	for s, x := range map[string][]float64{
		"1": {nan, nan, nan}, "1 1:5": {5, nan, nan}, "1 3:0": {nan, nan, 0}, "1 2:-0": {nan, minus0, nan}, "1 1:1 2:nan 3:3": {1, nan, 3},
	} {
		says(t, "17.3: lost: "+s, sparse(s, 3, true), [][]float64{x}, 1)
	}
	says(t, "17.3: labels", sparse("nan\ninf 1:1\n-inf\n-0 1:2\n0\n1e400\n\n0x1p1 1:3", 1, false), [][]float64{{0}, {1}, {0}, {2}, {0}, {0}, {3}}, nan, endless, -endless, minus0, 0, endless, 2)
}

// Words that are not a label and threes with a mark in their midst.
func TestForms(t *testing.T) {
	for _, s := range []string{"1 2", "1 2:", "1 :2", "1 2:3 4", "1 2:3 4:", "1 2:3:", "1 2:3:4", "1:2", "1:", "2:0.5", "1:2 3:4", "::", ":1 2", "1 : 2 3", "1 2 3", "1 2 3:", "1 2;3", "1 2=3", "1 2<=3", "1 2,3", "1 2|3", `1 2":"3`, "1 2 nan 3", "1 1:1,2:2", "1 1:1, 2:2", "1 2 3 4:5:6", "1 1:1 2 : 2 :", "x y", "x 2", ": 0:1 x", "1 qid:1 2"} {
		breaks(t, "17.3: "+s, sparse(s, 3, false), 1, 2)
		breaks(t, "17.3: "+s, sparse("1 1:1\n\n"+s+"\nx", 3, true), 3, 2)
	}
	for _, s := range []string{":", ",", "<=", "(", "x", "NaN", `"1"`, "+1", "nan.", `""`} {
		breaks(t, "17.3: label "+s, sparse(s, 3, false), 1, 3)
		breaks(t, "17.3: label "+s, sparse(s+" 1:1", 3, false), 1, 3)
		breaks(t, "17.3: label "+s, sparse(s+" 9:x 9:x", 3, false), 1, 3)
	}
	breaks(t, "17.3: a mark in the place of an index", sparse("1 :::", 3, false), 1, 4)
	breaks(t, "17.3: a mark in the place of a number", sparse("1 1::", 3, false), 1, 6)
}

func TestIndices(t *testing.T) {
	for _, s := range []string{
		"0", "00", "01", "001", "03", "4", "10", "30", "300", "-1", "+1", "-0", "1.0", "1.", ".1", "1e0", "0x1", "0x1p0", "1_0", "1_", "2x", "a", "nan", "inf", "qid", `"1"`, `"2"`, ":", ",", "65536", "65537",
		"4294967297", "4294967298", "18446744073709551617", "18446744073709551618", "9223372036854775808", "9223372036854775809", "340282366920938463463374607431768211457", strings.Repeat("1", 100), strings.Repeat("9", api.MaxLine), strings.Repeat("0", 5000) + "1", "36893488147419103233",
	} {
		breaks(t, "17.3: index "+s, sparse("1 "+s+":1", 3, false), 1, 4)
		breaks(t, "17.3: index "+s, sparse("1\n2 1:1 "+s+":1 3:1", 3, true), 2, 4)
		breaks(t, "17.3: index "+s, sparse("1 3:1 "+s+":1", 3, false), 1, 4)
		breaks(t, "17.3: index "+s, sparse("1 2:1 2:1 1:z "+s+":1", 3, false), 1, 4)
	}
	for _, s := range []string{"1 1:1 1:1", "1 2:1 1:1", "1 3:1 2:1 1:1", "1 1:1 2:1 2:1", "1 1:1 3:1 2:1", "1 2:1 1:1 3:1", "1 1:1 1:z", "1 3:z 1:1", "1 2:1 3:1 1:1"} {
		breaks(t, "17.3: "+s, sparse(s, 3, false), 1, 5)
		breaks(t, "17.3: "+s, sparse("1 1:1\n"+s, 3, true), 2, 5)
	}
	for _, d := range []int{1, 9, 10, 99, 100, 999, 12345, api.MaxFeatures} {
		for i := 1; i <= d; i += 1 + d/50 {
			x := make([]float64, d)
			x[i-1], x[d-1] = 5, 6
			s := fmt.Sprintf("1 %d:5 %d:6", i, d)
			if i == d {
				s = fmt.Sprintf("1 %d:6", d)
			}
			says(t, "17.3: "+s, sparse(s, d, false), [][]float64{x}, 1)
		}
		breaks(t, "17.3: d + 1", sparse(fmt.Sprintf("1 %d:1", d+1), d, false), 1, 4)
	}
}

// The lines of a batch have nothing to do with one another: what one tells is not told in the next one.
func TestLinesApart(t *testing.T) {
	says(t, "17.3: an index may fall from line to line", sparse("1 3:3\n2 1:1\n3\n4 2:2", 3, false), [][]float64{{0, 0, 3}, {1, 0, 0}, {0, 0, 0}, {0, 2, 0}}, 1, 2, 3, 4)
	says(t, "17.3: an index may fall from line to line", sparse("1 3:3\n2 1:1\n3\n4 2:2", 3, true), [][]float64{{nan, nan, 3}, {1, nan, nan}, {nan, nan, nan}, {nan, 2, nan}}, 1, 2, 3, 4)
}

// What is not told takes no room as long as a line may break a rule: else a short text could ask for more than there is.
func TestRoomOfFaults(t *testing.T) {
	s := strings.Repeat("1\n", 1<<20) + "x"
	var before, behind runtime.MemStats
	runtime.ReadMemStats(&before)
	a := sparse(s, api.MaxFeatures, true)
	runtime.ReadMemStats(&behind)
	breaks(t, "P1: a fault behind many lines", a, 1<<20+1, 3)
	if n := behind.TotalAlloc - before.TotalAlloc; n > 1<<30 {
		t.Errorf("P1: %d bytes for a fault", n)
	}
}
