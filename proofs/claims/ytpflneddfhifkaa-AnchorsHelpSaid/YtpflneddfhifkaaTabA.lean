/-
The code of functions of the seat, as the abstract machine has it (printed by a tool of ours off the dump).
-/
import Derived.Test.YtpflneddfhifkaaAmX
namespace Go.Proofs.Ytpflneddfhifkaa.T
open Go Go.Am
/-- gosem.cut.init -/
def f2 : AFn := ⟨1, [],
 .region 0 [⟨(some 0), .call 1 1 [], none, none, []⟩]⟩
/-- almadraba/almadrabalaw02.AnchorsLoad -/
def f3 : AFn := ⟨87, [.tmp 4],
 .seq (.region 0 [⟨(some 2), .box (.t 0), none, none, []⟩,
 ⟨(some 3), .box (.t 1), none, none, []⟩,
 ⟨(some 4), .p (.move (.c (.bool false))), none, none, []⟩])
 (.seq (.seq (.region 0 [⟨(some 14), .load true 7 (.t 2), none, none, []⟩,
 ⟨(some 15), .p (.build [.int .i64 0, .int .i64 0, .nils] []), none, none, []⟩,
 ⟨(some 16), .call 1 15 [(.t 14), (.t 15)], none, none, []⟩])
 (.cond (.t 16) (.seq (.region 0 [⟨(some 17), .call 1 16 [], none, none, []⟩,
 ⟨(some 4), .p (.move (.t 17)), none, none, []⟩])
 (.ret))
 (.skip)))
 (.seq (.region 0 [⟨(some 18), .load true 7 (.t 2), none, none, []⟩,
 ⟨(some 19), .call 1 17 [(.t 18)], none, none, []⟩,
 ⟨(some 5), .alloc [.int .i64 0, .int .i64 0, .int .i64 0, .int .i64 0, .nils, .nils, .nils], none, none, []⟩,
 ⟨none, .store 7 (.t 5) (.t 19), none, none, []⟩])
 (.seq (.seq (.region 0 [⟨(some 20), .load true 7 (.t 5), none, none, []⟩,
 ⟨(some 21), .call 1 18 [(.t 20)], none, none, []⟩,
 ⟨(some 22), .load true 7 (.t 2), none, none, []⟩,
 ⟨(some 23), .call 1 19 [(.t 22)], none, none, []⟩,
 ⟨(some 24), .p (.bin .neq (.t 21) (.t 23)), none, none, []⟩])
 (.cond (.t 24) (.seq (.region 0 [⟨(some 4), .p (.move (.c (.bool false))), none, none, []⟩])
 (.ret))
 (.skip)))
 (.seq (.region 0 [⟨(some 26), .load true 7 (.t 5), none, none, []⟩,
 ⟨(some 27), .p (.fieldAddr 0 (.t 3)), none, none, []⟩,
 ⟨(some 28), .load false 1 (.t 27), none, none, []⟩,
 ⟨(some 29), .p (.fieldAddr 1 (.t 3)), none, none, []⟩,
 ⟨(some 30), .load false 1 (.t 29), none, none, []⟩,
 ⟨(some 31), .p (.fieldAddr 2 (.t 3)), none, none, []⟩,
 ⟨(some 32), .load false 1 (.t 31), none, none, []⟩,
 ⟨(some 33), .call 1 20 [(.t 26), (.t 28), (.t 30), (.t 32)], none, none, []⟩,
 ⟨(some 25), .p (.move (.t 33)), none, none, []⟩,
 ⟨(some 34), .p (.extract (.t 25) 0), none, none, []⟩,
 ⟨(some 35), .p (.extract (.t 25) 1), none, none, []⟩,
 ⟨(some 6), .p (.move (.t 34)), none, none, []⟩,
 ⟨(some 7), .p (.move (.t 35)), none, none, []⟩])
 (.seq (.region 0 [⟨(some 37), .load true 7 (.t 2), none, none, []⟩,
 ⟨(some 38), .p (.fieldAddr 0 (.t 3)), none, none, []⟩,
 ⟨(some 39), .load false 1 (.t 38), none, none, []⟩,
 ⟨(some 40), .p (.fieldAddr 1 (.t 3)), none, none, []⟩,
 ⟨(some 41), .load false 1 (.t 40), none, none, []⟩,
 ⟨(some 42), .p (.fieldAddr 2 (.t 3)), none, none, []⟩,
 ⟨(some 43), .load false 1 (.t 42), none, none, []⟩,
 ⟨(some 44), .call 1 21 [(.t 37), (.t 39), (.t 41), (.t 43)], none, none, []⟩,
 ⟨(some 36), .p (.move (.t 44)), none, none, []⟩,
 ⟨(some 45), .p (.extract (.t 36) 0), none, none, []⟩,
 ⟨(some 46), .p (.extract (.t 36) 1), none, none, []⟩,
 ⟨(some 8), .p (.move (.t 45)), none, none, []⟩,
 ⟨(some 9), .p (.move (.t 46)), none, none, []⟩])
 (.seq (.region 0 [⟨(some 48), .load true 7 (.t 5), none, none, []⟩,
 ⟨(some 49), .p (.fieldAddr 0 (.t 3)), none, none, []⟩,
 ⟨(some 50), .load false 1 (.t 49), none, none, []⟩,
 ⟨(some 51), .call 1 22 [(.t 48), (.t 50)], none, none, []⟩,
 ⟨(some 47), .p (.move (.t 51)), none, none, []⟩,
 ⟨(some 52), .p (.extract (.t 47) 0), none, none, []⟩,
 ⟨(some 53), .p (.extract (.t 47) 1), none, none, []⟩,
 ⟨(some 10), .p (.move (.t 52)), none, none, []⟩,
 ⟨(some 11), .p (.move (.t 53)), none, none, []⟩])
 (.seq (.region 0 [⟨(some 55), .load true 7 (.t 2), none, none, []⟩,
 ⟨(some 56), .p (.fieldAddr 0 (.t 3)), none, none, []⟩,
 ⟨(some 57), .load false 1 (.t 56), none, none, []⟩,
 ⟨(some 58), .call 1 23 [(.t 55), (.t 57)], none, none, []⟩,
 ⟨(some 54), .p (.move (.t 58)), none, none, []⟩,
 ⟨(some 59), .p (.extract (.t 54) 0), none, none, []⟩,
 ⟨(some 60), .p (.extract (.t 54) 1), none, none, []⟩,
 ⟨(some 12), .p (.move (.t 59)), none, none, []⟩,
 ⟨(some 13), .p (.move (.t 60)), none, none, []⟩])
 (.seq (.region 0 [⟨(some 61), .p (.move (.t 6)), none, none, []⟩,
 ⟨(some 62), .p (.move (.t 8)), none, none, []⟩,
 ⟨(some 63), .p (.bin .eql (.t 61) (.t 62)), none, none, []⟩,
 ⟨(some 64), .p (.move (.t 63)), none, none, []⟩,
 ⟨(some 65), .p (.move (.t 7)), (some (64, true)), none, []⟩,
 ⟨(some 66), .p (.move (.t 9)), (some (64, true)), none, []⟩,
 ⟨(some 67), .p (.bin .eql (.t 65) (.t 66)), (some (64, true)), none, []⟩,
 ⟨(some 68), .p (.pick (.t 64) (.t 67) (.c (.bool false))), none, none, []⟩,
 ⟨(some 69), .p (.move (.t 68)), none, none, []⟩,
 ⟨(some 70), .p (.move (.t 10)), (some (69, true)), none, []⟩,
 ⟨(some 71), .p (.move (.t 12)), (some (69, true)), none, []⟩,
 ⟨(some 72), .p (.bin .eql (.t 70) (.t 71)), (some (69, true)), none, []⟩,
 ⟨(some 73), .p (.pick (.t 69) (.t 72) (.c (.bool false))), none, none, []⟩,
 ⟨(some 74), .p (.move (.t 73)), none, none, []⟩,
 ⟨(some 75), .p (.move (.t 11)), (some (74, true)), none, []⟩,
 ⟨(some 76), .p (.move (.t 13)), (some (74, true)), none, []⟩,
 ⟨(some 77), .p (.bin .eql (.t 75) (.t 76)), (some (74, true)), none, []⟩,
 ⟨(some 78), .p (.pick (.t 74) (.t 77) (.c (.bool false))), none, none, []⟩,
 ⟨(some 79), .p (.move (.t 78)), none, none, []⟩,
 ⟨(some 80), .load true 7 (.t 5), (some (79, true)), none, []⟩,
 ⟨(some 81), .load true 7 (.t 2), (some (79, true)), none, []⟩,
 ⟨(some 82), .call 1 24 [(.t 80), (.t 81)], (some (79, true)), none, []⟩,
 ⟨(some 83), .p (.pick (.t 79) (.t 82) (.c (.bool false))), none, none, []⟩,
 ⟨(some 84), .p (.move (.t 83)), none, none, []⟩,
 ⟨(some 85), .call 1 16 [], (some (84, true)), none, []⟩,
 ⟨(some 86), .p (.pick (.t 84) (.t 85) (.c (.bool false))), none, none, []⟩,
 ⟨(some 4), .p (.move (.t 86)), none, none, []⟩])
 (.ret)))))))))⟩
/-- almadraba/almadrabalaw02.AnchorsDrags -/
def f4 : AFn := ⟨128, [.tmp 6],
 .seq (.region 0 [⟨(some 3), .box (.t 0), none, none, []⟩,
 ⟨(some 4), .box (.t 1), none, none, []⟩,
 ⟨(some 6), .p (.move (.c (.bool false))), none, none, []⟩])
 (.seq (.seq (.region 0 [⟨(some 19), .load true 7 (.t 3), none, none, []⟩,
 ⟨(some 20), .load true 3 (.t 4), none, none, []⟩,
 ⟨(some 21), .call 1 15 [(.t 19), (.t 20)], none, none, []⟩])
 (.cond (.t 21) (.seq (.region 0 [⟨(some 22), .call 1 16 [], none, none, []⟩,
 ⟨(some 6), .p (.move (.t 22)), none, none, []⟩])
 (.ret))
 (.skip)))
 (.seq (.region 2 [⟨(some 23), .load true 7 (.t 3), none, none, [0, 1]⟩,
 ⟨(some 24), .call 1 17 [(.t 23)], none, none, [0, 1]⟩,
 ⟨(some 25), .load true 3 (.t 4), none, none, [0, 1]⟩,
 ⟨(some 26), .call 1 25 [(.t 25)], none, none, [0, 1]⟩,
 ⟨(some 7), .alloc [.int .i64 0, .int .i64 0, .int .i64 0, .int .i64 0, .nils, .nils, .nils], none, (some 0), []⟩,
 ⟨(some 8), .alloc [.int .i64 0, .int .i64 0, .nils], none, (some 1), []⟩,
 ⟨none, .store 7 (.t 7) (.t 24), none, (some 0), []⟩,
 ⟨none, .store 3 (.t 8) (.t 26), none, (some 1), []⟩])
 (.seq (.region 0 [⟨(some 28), .load true 7 (.t 7), none, none, []⟩,
 ⟨(some 29), .load true 3 (.t 8), none, none, []⟩,
 ⟨(some 30), .call 1 26 [(.t 28), (.t 29)], none, none, []⟩,
 ⟨(some 27), .p (.move (.t 30)), none, none, []⟩,
 ⟨(some 31), .p (.extract (.t 27) 0), none, none, []⟩,
 ⟨(some 32), .p (.extract (.t 27) 1), none, none, []⟩,
 ⟨(some 9), .p (.move (.t 31)), none, none, []⟩,
 ⟨(some 10), .p (.move (.t 32)), none, none, []⟩])
 (.seq (.region 0 [⟨(some 34), .load true 7 (.t 3), none, none, []⟩,
 ⟨(some 35), .load true 3 (.t 4), none, none, []⟩,
 ⟨(some 36), .call 1 27 [(.t 34), (.t 35)], none, none, []⟩,
 ⟨(some 33), .p (.move (.t 36)), none, none, []⟩,
 ⟨(some 37), .p (.extract (.t 33) 0), none, none, []⟩,
 ⟨(some 38), .p (.extract (.t 33) 1), none, none, []⟩,
 ⟨(some 11), .p (.move (.t 37)), none, none, []⟩,
 ⟨(some 12), .p (.move (.t 38)), none, none, []⟩])
 (.seq (.region 0 [⟨(some 40), .load true 7 (.t 7), none, none, []⟩,
 ⟨(some 41), .load true 3 (.t 8), none, none, []⟩,
 ⟨(some 42), .call 1 28 [(.t 40), (.t 41)], none, none, []⟩,
 ⟨(some 39), .p (.move (.t 42)), none, none, []⟩,
 ⟨(some 43), .p (.extract (.t 39) 0), none, none, []⟩,
 ⟨(some 44), .p (.extract (.t 39) 1), none, none, []⟩,
 ⟨(some 13), .p (.move (.t 43)), none, none, []⟩,
 ⟨(some 14), .p (.move (.t 44)), none, none, []⟩])
 (.seq (.region 0 [⟨(some 46), .load true 7 (.t 3), none, none, []⟩,
 ⟨(some 47), .load true 3 (.t 4), none, none, []⟩,
 ⟨(some 48), .call 1 29 [(.t 46), (.t 47)], none, none, []⟩,
 ⟨(some 45), .p (.move (.t 48)), none, none, []⟩,
 ⟨(some 49), .p (.extract (.t 45) 0), none, none, []⟩,
 ⟨(some 50), .p (.extract (.t 45) 1), none, none, []⟩,
 ⟨(some 15), .p (.move (.t 49)), none, none, []⟩,
 ⟨(some 16), .p (.move (.t 50)), none, none, []⟩])
 (.seq (.seq (.region 0 [⟨(some 51), .p (.move (.t 9)), none, none, []⟩,
 ⟨(some 52), .p (.move (.t 11)), none, none, []⟩,
 ⟨(some 53), .call 1 30 [(.t 51), (.t 52)], none, none, []⟩,
 ⟨(some 54), .p (.un .not (.t 53)), none, none, []⟩,
 ⟨(some 55), .p (.move (.t 54)), none, none, []⟩,
 ⟨(some 56), .p (.move (.t 10)), (some (55, false)), none, []⟩,
 ⟨(some 57), .p (.move (.t 12)), (some (55, false)), none, []⟩,
 ⟨(some 58), .p (.bin .neq (.t 56) (.t 57)), (some (55, false)), none, []⟩,
 ⟨(some 59), .p (.pick (.t 55) (.c (.bool true)) (.t 58)), none, none, []⟩,
 ⟨(some 60), .p (.move (.t 59)), none, none, []⟩,
 ⟨(some 61), .p (.move (.t 13)), (some (60, false)), none, []⟩,
 ⟨(some 62), .p (.move (.t 15)), (some (60, false)), none, []⟩,
 ⟨(some 63), .call 1 30 [(.t 61), (.t 62)], (some (60, false)), none, []⟩,
 ⟨(some 64), .p (.un .not (.t 63)), (some (60, false)), none, []⟩,
 ⟨(some 65), .p (.pick (.t 60) (.c (.bool true)) (.t 64)), none, none, []⟩,
 ⟨(some 66), .p (.move (.t 65)), none, none, []⟩,
 ⟨(some 67), .p (.move (.t 14)), (some (66, false)), none, []⟩,
 ⟨(some 68), .p (.move (.t 16)), (some (66, false)), none, []⟩,
 ⟨(some 69), .p (.bin .neq (.t 67) (.t 68)), (some (66, false)), none, []⟩,
 ⟨(some 70), .p (.pick (.t 66) (.c (.bool true)) (.t 69)), none, none, []⟩])
 (.cond (.t 70) (.seq (.region 0 [⟨(some 6), .p (.move (.c (.bool false))), none, none, []⟩])
 (.ret))
 (.skip)))
 (.seq (.region 0 [⟨(some 72), .load true 7 (.t 7), none, none, []⟩,
 ⟨(some 73), .load true 3 (.t 8), none, none, []⟩,
 ⟨(some 74), .p (.move (.t 2)), none, none, []⟩,
 ⟨(some 75), .call 1 31 [(.t 72), (.t 73), (.t 74)], none, none, []⟩,
 ⟨(some 71), .p (.move (.t 75)), none, none, []⟩,
 ⟨(some 76), .p (.extract (.t 71) 0), none, none, []⟩,
 ⟨(some 77), .p (.extract (.t 71) 1), none, none, []⟩,
 ⟨(some 9), .p (.move (.t 76)), none, none, []⟩,
 ⟨(some 10), .p (.move (.t 77)), none, none, []⟩])
 (.seq (.region 0 [⟨(some 79), .load true 7 (.t 3), none, none, []⟩,
 ⟨(some 80), .load true 3 (.t 4), none, none, []⟩,
 ⟨(some 81), .p (.move (.t 2)), none, none, []⟩,
 ⟨(some 82), .call 1 32 [(.t 79), (.t 80), (.t 81)], none, none, []⟩,
 ⟨(some 78), .p (.move (.t 82)), none, none, []⟩,
 ⟨(some 83), .p (.extract (.t 78) 0), none, none, []⟩,
 ⟨(some 84), .p (.extract (.t 78) 1), none, none, []⟩,
 ⟨(some 11), .p (.move (.t 83)), none, none, []⟩,
 ⟨(some 12), .p (.move (.t 84)), none, none, []⟩])
 (.seq (.region 0 [⟨(some 86), .load true 7 (.t 7), none, none, []⟩,
 ⟨(some 87), .load true 3 (.t 8), none, none, []⟩,
 ⟨(some 88), .call 1 33 [(.t 86), (.t 87)], none, none, []⟩,
 ⟨(some 85), .p (.move (.t 88)), none, none, []⟩,
 ⟨(some 89), .p (.extract (.t 85) 0), none, none, []⟩,
 ⟨(some 90), .p (.extract (.t 85) 1), none, none, []⟩,
 ⟨(some 17), .p (.move (.t 89)), none, none, []⟩,
 ⟨(some 14), .p (.move (.t 90)), none, none, []⟩])
 (.seq (.region 0 [⟨(some 92), .load true 7 (.t 3), none, none, []⟩,
 ⟨(some 93), .load true 3 (.t 4), none, none, []⟩,
 ⟨(some 94), .call 1 34 [(.t 92), (.t 93)], none, none, []⟩,
 ⟨(some 91), .p (.move (.t 94)), none, none, []⟩,
 ⟨(some 95), .p (.extract (.t 91) 0), none, none, []⟩,
 ⟨(some 96), .p (.extract (.t 91) 1), none, none, []⟩,
 ⟨(some 18), .p (.move (.t 95)), none, none, []⟩,
 ⟨(some 16), .p (.move (.t 96)), none, none, []⟩])
 (.seq (.region 0 [⟨(some 97), .p (.move (.t 9)), none, none, []⟩,
 ⟨(some 98), .p (.move (.t 11)), none, none, []⟩,
 ⟨(some 99), .call 1 30 [(.t 97), (.t 98)], none, none, []⟩,
 ⟨(some 100), .p (.move (.t 99)), none, none, []⟩,
 ⟨(some 101), .p (.move (.t 10)), (some (100, true)), none, []⟩,
 ⟨(some 102), .p (.move (.t 12)), (some (100, true)), none, []⟩,
 ⟨(some 103), .p (.bin .eql (.t 101) (.t 102)), (some (100, true)), none, []⟩,
 ⟨(some 104), .p (.pick (.t 100) (.t 103) (.c (.bool false))), none, none, []⟩,
 ⟨(some 105), .p (.move (.t 104)), none, none, []⟩,
 ⟨(some 106), .p (.move (.t 17)), (some (105, true)), none, []⟩,
 ⟨(some 107), .p (.move (.t 18)), (some (105, true)), none, []⟩,
 ⟨(some 108), .p (.bin .eql (.t 106) (.t 107)), (some (105, true)), none, []⟩,
 ⟨(some 109), .p (.pick (.t 105) (.t 108) (.c (.bool false))), none, none, []⟩,
 ⟨(some 110), .p (.move (.t 109)), none, none, []⟩,
 ⟨(some 111), .p (.move (.t 14)), (some (110, true)), none, []⟩,
 ⟨(some 112), .p (.move (.t 16)), (some (110, true)), none, []⟩,
 ⟨(some 113), .p (.bin .eql (.t 111) (.t 112)), (some (110, true)), none, []⟩,
 ⟨(some 114), .p (.pick (.t 110) (.t 113) (.c (.bool false))), none, none, []⟩,
 ⟨(some 115), .p (.move (.t 114)), none, none, []⟩,
 ⟨(some 116), .load true 7 (.t 7), (some (115, true)), none, []⟩,
 ⟨(some 117), .load true 7 (.t 3), (some (115, true)), none, []⟩,
 ⟨(some 118), .call 1 24 [(.t 116), (.t 117)], (some (115, true)), none, []⟩,
 ⟨(some 119), .p (.pick (.t 115) (.t 118) (.c (.bool false))), none, none, []⟩,
 ⟨(some 120), .p (.move (.t 119)), none, none, []⟩,
 ⟨(some 121), .load true 3 (.t 8), (some (120, true)), none, []⟩,
 ⟨(some 122), .load true 3 (.t 4), (some (120, true)), none, []⟩,
 ⟨(some 123), .call 1 35 [(.t 121), (.t 122)], (some (120, true)), none, []⟩,
 ⟨(some 124), .p (.pick (.t 120) (.t 123) (.c (.bool false))), none, none, []⟩,
 ⟨(some 125), .p (.move (.t 124)), none, none, []⟩,
 ⟨(some 126), .call 1 16 [], (some (125, true)), none, []⟩,
 ⟨(some 127), .p (.pick (.t 125) (.t 126) (.c (.bool false))), none, none, []⟩,
 ⟨(some 6), .p (.move (.t 127)), none, none, []⟩])
 (.ret)))))))))))))⟩
/-- almadraba/almadrabalaw02.AnchorsKnown -/
def f5 : AFn := ⟨93, [.tmp 4],
 .seq (.region 0 [⟨(some 2), .box (.t 0), none, none, []⟩,
 ⟨(some 4), .p (.move (.c (.bool false))), none, none, []⟩])
 (.seq (.seq (.region 0 [⟨(some 18), .load true 7 (.t 2), none, none, []⟩,
 ⟨(some 19), .call 1 36 [(.t 18)], none, none, []⟩])
 (.cond (.t 19) (.seq (.region 0 [⟨(some 20), .call 1 16 [], none, none, []⟩,
 ⟨(some 4), .p (.move (.t 20)), none, none, []⟩])
 (.ret))
 (.skip)))
 (.seq (.region 0 [⟨(some 21), .load true 7 (.t 2), none, none, []⟩,
 ⟨(some 22), .call 1 17 [(.t 21)], none, none, []⟩,
 ⟨(some 5), .alloc [.int .i64 0, .int .i64 0, .int .i64 0, .int .i64 0, .nils, .nils, .nils], none, none, []⟩,
 ⟨none, .store 7 (.t 5) (.t 22), none, none, []⟩])
 (.seq (.region 0 [⟨(some 24), .load true 7 (.t 5), none, none, []⟩,
 ⟨(some 25), .p (.move (.t 1)), none, none, []⟩,
 ⟨(some 26), .call 1 37 [(.t 24), (.t 25)], none, none, []⟩,
 ⟨(some 23), .p (.move (.t 26)), none, none, []⟩,
 ⟨(some 27), .p (.extract (.t 23) 0), none, none, []⟩,
 ⟨(some 28), .p (.extract (.t 23) 1), none, none, []⟩,
 ⟨(some 6), .p (.move (.t 27)), none, none, []⟩,
 ⟨(some 7), .p (.move (.t 28)), none, none, []⟩])
 (.seq (.region 0 [⟨(some 30), .load true 7 (.t 2), none, none, []⟩,
 ⟨(some 31), .p (.move (.t 1)), none, none, []⟩,
 ⟨(some 32), .call 1 38 [(.t 30), (.t 31)], none, none, []⟩,
 ⟨(some 29), .p (.move (.t 32)), none, none, []⟩,
 ⟨(some 33), .p (.extract (.t 29) 0), none, none, []⟩,
 ⟨(some 34), .p (.extract (.t 29) 1), none, none, []⟩,
 ⟨(some 8), .p (.move (.t 33)), none, none, []⟩,
 ⟨(some 9), .p (.move (.t 34)), none, none, []⟩])
 (.seq (.region 0 [⟨(some 36), .load true 7 (.t 5), none, none, []⟩,
 ⟨(some 37), .call 1 39 [(.t 36)], none, none, []⟩,
 ⟨(some 35), .p (.move (.t 37)), none, none, []⟩,
 ⟨(some 38), .p (.extract (.t 35) 0), none, none, []⟩,
 ⟨(some 39), .p (.extract (.t 35) 1), none, none, []⟩,
 ⟨(some 10), .p (.move (.t 38)), none, none, []⟩,
 ⟨(some 11), .p (.move (.t 39)), none, none, []⟩])
 (.seq (.region 0 [⟨(some 41), .load true 7 (.t 2), none, none, []⟩,
 ⟨(some 42), .call 1 40 [(.t 41)], none, none, []⟩,
 ⟨(some 40), .p (.move (.t 42)), none, none, []⟩,
 ⟨(some 43), .p (.extract (.t 40) 0), none, none, []⟩,
 ⟨(some 44), .p (.extract (.t 40) 1), none, none, []⟩,
 ⟨(some 12), .p (.move (.t 43)), none, none, []⟩,
 ⟨(some 13), .p (.move (.t 44)), none, none, []⟩])
 (.seq (.region 0 [⟨(some 46), .load true 7 (.t 5), none, none, []⟩,
 ⟨(some 47), .p (.move (.t 1)), none, none, []⟩,
 ⟨(some 48), .call 1 41 [(.t 46), (.t 47)], none, none, []⟩,
 ⟨(some 45), .p (.move (.t 48)), none, none, []⟩,
 ⟨(some 49), .p (.extract (.t 45) 0), none, none, []⟩,
 ⟨(some 50), .p (.extract (.t 45) 1), none, none, []⟩,
 ⟨(some 14), .alloc [.int .i64 0, .int .i64 0], none, none, []⟩,
 ⟨none, .store 2 (.t 14) (.t 49), none, none, []⟩,
 ⟨(some 15), .p (.move (.t 50)), none, none, []⟩])
 (.seq (.region 0 [⟨(some 52), .load true 7 (.t 2), none, none, []⟩,
 ⟨(some 53), .p (.move (.t 1)), none, none, []⟩,
 ⟨(some 54), .call 1 42 [(.t 52), (.t 53)], none, none, []⟩,
 ⟨(some 51), .p (.move (.t 54)), none, none, []⟩,
 ⟨(some 55), .p (.extract (.t 51) 0), none, none, []⟩,
 ⟨(some 56), .p (.extract (.t 51) 1), none, none, []⟩,
 ⟨(some 16), .alloc [.int .i64 0, .int .i64 0], none, none, []⟩,
 ⟨none, .store 2 (.t 16) (.t 55), none, none, []⟩,
 ⟨(some 17), .p (.move (.t 56)), none, none, []⟩])
 (.seq (.region 0 [⟨(some 57), .p (.move (.t 6)), none, none, []⟩,
 ⟨(some 58), .p (.move (.t 8)), none, none, []⟩,
 ⟨(some 59), .p (.bin .eql (.t 57) (.t 58)), none, none, []⟩,
 ⟨(some 60), .p (.move (.t 59)), none, none, []⟩,
 ⟨(some 61), .p (.move (.t 7)), (some (60, true)), none, []⟩,
 ⟨(some 62), .p (.move (.t 9)), (some (60, true)), none, []⟩,
 ⟨(some 63), .p (.bin .eql (.t 61) (.t 62)), (some (60, true)), none, []⟩,
 ⟨(some 64), .p (.pick (.t 60) (.t 63) (.c (.bool false))), none, none, []⟩,
 ⟨(some 65), .p (.move (.t 64)), none, none, []⟩,
 ⟨(some 66), .p (.move (.t 10)), (some (65, true)), none, []⟩,
 ⟨(some 67), .p (.move (.t 12)), (some (65, true)), none, []⟩,
 ⟨(some 68), .p (.bin .eql (.t 66) (.t 67)), (some (65, true)), none, []⟩,
 ⟨(some 69), .p (.pick (.t 65) (.t 68) (.c (.bool false))), none, none, []⟩,
 ⟨(some 70), .p (.move (.t 69)), none, none, []⟩,
 ⟨(some 71), .p (.move (.t 11)), (some (70, true)), none, []⟩,
 ⟨(some 72), .p (.move (.t 13)), (some (70, true)), none, []⟩,
 ⟨(some 73), .p (.bin .eql (.t 71) (.t 72)), (some (70, true)), none, []⟩,
 ⟨(some 74), .p (.pick (.t 70) (.t 73) (.c (.bool false))), none, none, []⟩,
 ⟨(some 75), .p (.move (.t 74)), none, none, []⟩,
 ⟨(some 76), .load true 2 (.t 14), (some (75, true)), none, []⟩,
 ⟨(some 77), .load true 2 (.t 16), (some (75, true)), none, []⟩,
 ⟨(some 78), .p (.eqS false [true, true] (.t 76) (.t 77)), (some (75, true)), none, []⟩,
 ⟨(some 79), .p (.pick (.t 75) (.t 78) (.c (.bool false))), none, none, []⟩,
 ⟨(some 80), .p (.move (.t 79)), none, none, []⟩,
 ⟨(some 81), .p (.move (.t 15)), (some (80, true)), none, []⟩,
 ⟨(some 82), .p (.move (.t 17)), (some (80, true)), none, []⟩,
 ⟨(some 83), .p (.bin .eql (.t 81) (.t 82)), (some (80, true)), none, []⟩,
 ⟨(some 84), .p (.pick (.t 80) (.t 83) (.c (.bool false))), none, none, []⟩,
 ⟨(some 85), .p (.move (.t 84)), none, none, []⟩,
 ⟨(some 86), .load true 7 (.t 5), (some (85, true)), none, []⟩,
 ⟨(some 87), .load true 7 (.t 2), (some (85, true)), none, []⟩,
 ⟨(some 88), .call 1 24 [(.t 86), (.t 87)], (some (85, true)), none, []⟩,
 ⟨(some 89), .p (.pick (.t 85) (.t 88) (.c (.bool false))), none, none, []⟩,
 ⟨(some 90), .p (.move (.t 89)), none, none, []⟩,
 ⟨(some 91), .call 1 16 [], (some (90, true)), none, []⟩,
 ⟨(some 92), .p (.pick (.t 90) (.t 91) (.c (.bool false))), none, none, []⟩,
 ⟨(some 4), .p (.move (.t 92)), none, none, []⟩])
 (.ret))))))))))⟩
/-- almadraba/almadrabalaw02.AnchorsWind -/
def f6 : AFn := ⟨63, [.tmp 2],
 .seq (.region 0 [⟨(some 1), .box (.t 0), none, none, []⟩,
 ⟨(some 2), .p (.move (.c (.bool false))), none, none, []⟩])
 (.seq (.seq (.region 0 [⟨(some 12), .load true 7 (.t 1), none, none, []⟩,
 ⟨(some 13), .call 1 36 [(.t 12)], none, none, []⟩])
 (.cond (.t 13) (.seq (.region 0 [⟨(some 14), .call 1 16 [], none, none, []⟩,
 ⟨(some 2), .p (.move (.t 14)), none, none, []⟩])
 (.ret))
 (.skip)))
 (.seq (.region 0 [⟨(some 15), .load true 7 (.t 1), none, none, []⟩,
 ⟨(some 16), .call 1 17 [(.t 15)], none, none, []⟩,
 ⟨(some 3), .alloc [.int .i64 0, .int .i64 0, .int .i64 0, .int .i64 0, .nils, .nils, .nils], none, none, []⟩,
 ⟨none, .store 7 (.t 3) (.t 16), none, none, []⟩])
 (.seq (.region 0 [⟨(some 18), .load true 7 (.t 3), none, none, []⟩,
 ⟨(some 19), .call 1 43 [(.t 18)], none, none, []⟩,
 ⟨(some 17), .p (.move (.t 19)), none, none, []⟩,
 ⟨(some 20), .p (.extract (.t 17) 0), none, none, []⟩,
 ⟨(some 21), .p (.extract (.t 17) 1), none, none, []⟩,
 ⟨(some 4), .p (.move (.t 20)), none, none, []⟩,
 ⟨(some 5), .p (.move (.t 21)), none, none, []⟩])
 (.seq (.region 0 [⟨(some 23), .load true 7 (.t 1), none, none, []⟩,
 ⟨(some 24), .call 1 44 [(.t 23)], none, none, []⟩,
 ⟨(some 22), .p (.move (.t 24)), none, none, []⟩,
 ⟨(some 25), .p (.extract (.t 22) 0), none, none, []⟩,
 ⟨(some 26), .p (.extract (.t 22) 1), none, none, []⟩,
 ⟨(some 6), .p (.move (.t 25)), none, none, []⟩,
 ⟨(some 7), .p (.move (.t 26)), none, none, []⟩])
 (.seq (.region 0 [⟨(some 28), .load true 7 (.t 3), none, none, []⟩,
 ⟨(some 29), .call 1 45 [(.t 28)], none, none, []⟩,
 ⟨(some 27), .p (.move (.t 29)), none, none, []⟩,
 ⟨(some 30), .p (.extract (.t 27) 0), none, none, []⟩,
 ⟨(some 31), .p (.extract (.t 27) 1), none, none, []⟩,
 ⟨(some 8), .p (.move (.t 30)), none, none, []⟩,
 ⟨(some 9), .p (.move (.t 31)), none, none, []⟩])
 (.seq (.region 0 [⟨(some 33), .load true 7 (.t 1), none, none, []⟩,
 ⟨(some 34), .call 1 46 [(.t 33)], none, none, []⟩,
 ⟨(some 32), .p (.move (.t 34)), none, none, []⟩,
 ⟨(some 35), .p (.extract (.t 32) 0), none, none, []⟩,
 ⟨(some 36), .p (.extract (.t 32) 1), none, none, []⟩,
 ⟨(some 10), .p (.move (.t 35)), none, none, []⟩,
 ⟨(some 11), .p (.move (.t 36)), none, none, []⟩])
 (.seq (.region 0 [⟨(some 37), .p (.move (.t 4)), none, none, []⟩,
 ⟨(some 38), .p (.move (.t 6)), none, none, []⟩,
 ⟨(some 39), .p (.bin .eql (.t 37) (.t 38)), none, none, []⟩,
 ⟨(some 40), .p (.move (.t 39)), none, none, []⟩,
 ⟨(some 41), .p (.move (.t 5)), (some (40, true)), none, []⟩,
 ⟨(some 42), .p (.move (.t 7)), (some (40, true)), none, []⟩,
 ⟨(some 43), .p (.bin .eql (.t 41) (.t 42)), (some (40, true)), none, []⟩,
 ⟨(some 44), .p (.pick (.t 40) (.t 43) (.c (.bool false))), none, none, []⟩,
 ⟨(some 45), .p (.move (.t 44)), none, none, []⟩,
 ⟨(some 46), .p (.move (.t 8)), (some (45, true)), none, []⟩,
 ⟨(some 47), .p (.move (.t 10)), (some (45, true)), none, []⟩,
 ⟨(some 48), .p (.bin .eql (.t 46) (.t 47)), (some (45, true)), none, []⟩,
 ⟨(some 49), .p (.pick (.t 45) (.t 48) (.c (.bool false))), none, none, []⟩,
 ⟨(some 50), .p (.move (.t 49)), none, none, []⟩,
 ⟨(some 51), .p (.move (.t 9)), (some (50, true)), none, []⟩,
 ⟨(some 52), .p (.move (.t 11)), (some (50, true)), none, []⟩,
 ⟨(some 53), .p (.bin .eql (.t 51) (.t 52)), (some (50, true)), none, []⟩,
 ⟨(some 54), .p (.pick (.t 50) (.t 53) (.c (.bool false))), none, none, []⟩,
 ⟨(some 55), .p (.move (.t 54)), none, none, []⟩,
 ⟨(some 56), .load true 7 (.t 3), (some (55, true)), none, []⟩,
 ⟨(some 57), .load true 7 (.t 1), (some (55, true)), none, []⟩,
 ⟨(some 58), .call 1 24 [(.t 56), (.t 57)], (some (55, true)), none, []⟩,
 ⟨(some 59), .p (.pick (.t 55) (.t 58) (.c (.bool false))), none, none, []⟩,
 ⟨(some 60), .p (.move (.t 59)), none, none, []⟩,
 ⟨(some 61), .call 1 16 [], (some (60, true)), none, []⟩,
 ⟨(some 62), .p (.pick (.t 60) (.t 61) (.c (.bool false))), none, none, []⟩,
 ⟨(some 2), .p (.move (.t 62)), none, none, []⟩])
 (.ret))))))))⟩
/-- almadraba/almadrabalaw02.AnchorsHelp -/
def f7 : AFn := ⟨63, [.tmp 2],
 .seq (.region 0 [⟨(some 1), .box (.t 0), none, none, []⟩,
 ⟨(some 2), .p (.move (.c (.bool false))), none, none, []⟩])
 (.seq (.seq (.region 0 [⟨(some 12), .load true 7 (.t 1), none, none, []⟩,
 ⟨(some 13), .call 1 36 [(.t 12)], none, none, []⟩])
 (.cond (.t 13) (.seq (.region 0 [⟨(some 14), .call 1 16 [], none, none, []⟩,
 ⟨(some 2), .p (.move (.t 14)), none, none, []⟩])
 (.ret))
 (.skip)))
 (.seq (.region 0 [⟨(some 15), .load true 7 (.t 1), none, none, []⟩,
 ⟨(some 16), .call 1 17 [(.t 15)], none, none, []⟩,
 ⟨(some 3), .alloc [.int .i64 0, .int .i64 0, .int .i64 0, .int .i64 0, .nils, .nils, .nils], none, none, []⟩,
 ⟨none, .store 7 (.t 3) (.t 16), none, none, []⟩])
 (.seq (.region 0 [⟨(some 18), .load true 7 (.t 3), none, none, []⟩,
 ⟨(some 19), .call 1 47 [(.t 18)], none, none, []⟩,
 ⟨(some 17), .p (.move (.t 19)), none, none, []⟩,
 ⟨(some 20), .p (.extract (.t 17) 0), none, none, []⟩,
 ⟨(some 21), .p (.extract (.t 17) 1), none, none, []⟩,
 ⟨(some 4), .p (.move (.t 20)), none, none, []⟩,
 ⟨(some 5), .p (.move (.t 21)), none, none, []⟩])
 (.seq (.region 0 [⟨(some 23), .load true 7 (.t 1), none, none, []⟩,
 ⟨(some 24), .call 1 48 [(.t 23)], none, none, []⟩,
 ⟨(some 22), .p (.move (.t 24)), none, none, []⟩,
 ⟨(some 25), .p (.extract (.t 22) 0), none, none, []⟩,
 ⟨(some 26), .p (.extract (.t 22) 1), none, none, []⟩,
 ⟨(some 6), .p (.move (.t 25)), none, none, []⟩,
 ⟨(some 7), .p (.move (.t 26)), none, none, []⟩])
 (.seq (.region 0 [⟨(some 28), .load true 7 (.t 3), none, none, []⟩,
 ⟨(some 29), .call 1 49 [(.t 28)], none, none, []⟩,
 ⟨(some 27), .p (.move (.t 29)), none, none, []⟩,
 ⟨(some 30), .p (.extract (.t 27) 0), none, none, []⟩,
 ⟨(some 31), .p (.extract (.t 27) 1), none, none, []⟩,
 ⟨(some 8), .p (.move (.t 30)), none, none, []⟩,
 ⟨(some 9), .p (.move (.t 31)), none, none, []⟩])
 (.seq (.region 0 [⟨(some 33), .load true 7 (.t 1), none, none, []⟩,
 ⟨(some 34), .call 1 50 [(.t 33)], none, none, []⟩,
 ⟨(some 32), .p (.move (.t 34)), none, none, []⟩,
 ⟨(some 35), .p (.extract (.t 32) 0), none, none, []⟩,
 ⟨(some 36), .p (.extract (.t 32) 1), none, none, []⟩,
 ⟨(some 10), .p (.move (.t 35)), none, none, []⟩,
 ⟨(some 11), .p (.move (.t 36)), none, none, []⟩])
 (.seq (.region 0 [⟨(some 37), .p (.move (.t 4)), none, none, []⟩,
 ⟨(some 38), .p (.move (.t 6)), none, none, []⟩,
 ⟨(some 39), .p (.bin .eql (.t 37) (.t 38)), none, none, []⟩,
 ⟨(some 40), .p (.move (.t 39)), none, none, []⟩,
 ⟨(some 41), .p (.move (.t 5)), (some (40, true)), none, []⟩,
 ⟨(some 42), .p (.move (.t 7)), (some (40, true)), none, []⟩,
 ⟨(some 43), .p (.bin .eql (.t 41) (.t 42)), (some (40, true)), none, []⟩,
 ⟨(some 44), .p (.pick (.t 40) (.t 43) (.c (.bool false))), none, none, []⟩,
 ⟨(some 45), .p (.move (.t 44)), none, none, []⟩,
 ⟨(some 46), .p (.move (.t 8)), (some (45, true)), none, []⟩,
 ⟨(some 47), .p (.move (.t 10)), (some (45, true)), none, []⟩,
 ⟨(some 48), .call 1 30 [(.t 46), (.t 47)], (some (45, true)), none, []⟩,
 ⟨(some 49), .p (.pick (.t 45) (.t 48) (.c (.bool false))), none, none, []⟩,
 ⟨(some 50), .p (.move (.t 49)), none, none, []⟩,
 ⟨(some 51), .p (.move (.t 9)), (some (50, true)), none, []⟩,
 ⟨(some 52), .p (.move (.t 11)), (some (50, true)), none, []⟩,
 ⟨(some 53), .p (.bin .eql (.t 51) (.t 52)), (some (50, true)), none, []⟩,
 ⟨(some 54), .p (.pick (.t 50) (.t 53) (.c (.bool false))), none, none, []⟩,
 ⟨(some 55), .p (.move (.t 54)), none, none, []⟩,
 ⟨(some 56), .load true 7 (.t 3), (some (55, true)), none, []⟩,
 ⟨(some 57), .load true 7 (.t 1), (some (55, true)), none, []⟩,
 ⟨(some 58), .call 1 24 [(.t 56), (.t 57)], (some (55, true)), none, []⟩,
 ⟨(some 59), .p (.pick (.t 55) (.t 58) (.c (.bool false))), none, none, []⟩,
 ⟨(some 60), .p (.move (.t 59)), none, none, []⟩,
 ⟨(some 61), .call 1 16 [], (some (60, true)), none, []⟩,
 ⟨(some 62), .p (.pick (.t 60) (.t 61) (.c (.bool false))), none, none, []⟩,
 ⟨(some 2), .p (.move (.t 62)), none, none, []⟩])
 (.ret))))))))⟩
/-- almadraba/almadrabalaw02.AnchorsPulled -/
def f11 : AFn := ⟨136, [.tmp 6],
 .seq (.region 0 [⟨(some 3), .box (.t 0), none, none, []⟩,
 ⟨(some 4), .box (.t 1), none, none, []⟩,
 ⟨(some 6), .p (.move (.c (.bool false))), none, none, []⟩])
 (.seq (.seq (.region 0 [⟨(some 15), .load true 7 (.t 3), none, none, []⟩,
 ⟨(some 16), .load true 3 (.t 4), none, none, []⟩,
 ⟨(some 17), .call 1 51 [(.t 15), (.t 16)], none, none, []⟩,
 ⟨(some 18), .p (.un .not (.t 17)), none, none, []⟩,
 ⟨(some 19), .p (.move (.t 18)), none, none, []⟩,
 ⟨(some 20), .load true 7 (.t 3), (some (19, false)), none, []⟩,
 ⟨(some 21), .p (.move (.t 2)), (some (19, false)), none, []⟩,
 ⟨(some 22), .call 1 57 [(.t 20), (.t 21)], (some (19, false)), none, []⟩,
 ⟨(some 23), .p (.un .not (.t 22)), (some (19, false)), none, []⟩,
 ⟨(some 24), .p (.pick (.t 19) (.c (.bool true)) (.t 23)), none, none, []⟩])
 (.cond (.t 24) (.seq (.region 0 [⟨(some 25), .call 1 16 [], none, none, []⟩,
 ⟨(some 6), .p (.move (.t 25)), none, none, []⟩])
 (.ret))
 (.skip)))
 (.seq (.region 0 [⟨(some 27), .load true 7 (.t 3), none, none, []⟩,
 ⟨(some 28), .load true 3 (.t 4), none, none, []⟩,
 ⟨(some 29), .call 1 52 [(.t 27), (.t 28)], none, none, []⟩,
 ⟨(some 26), .p (.move (.t 29)), none, none, []⟩,
 ⟨(some 30), .p (.extract (.t 26) 0), none, none, []⟩,
 ⟨(some 31), .p (.extract (.t 26) 1), none, none, []⟩,
 ⟨(some 7), .p (.move (.t 30)), none, none, []⟩,
 ⟨(some 8), .p (.move (.t 31)), none, none, []⟩])
 (.seq (.region 0 [⟨(some 33), .load true 7 (.t 3), none, none, []⟩,
 ⟨(some 34), .load true 3 (.t 4), none, none, []⟩,
 ⟨(some 35), .call 1 25 [(.t 34)], none, none, []⟩,
 ⟨(some 36), .p (.move (.t 2)), none, none, []⟩,
 ⟨(some 37), .call 1 31 [(.t 33), (.t 35), (.t 36)], none, none, []⟩,
 ⟨(some 32), .p (.move (.t 37)), none, none, []⟩,
 ⟨(some 38), .p (.extract (.t 32) 0), none, none, []⟩,
 ⟨(some 39), .p (.extract (.t 32) 1), none, none, []⟩,
 ⟨(some 9), .p (.move (.t 38)), none, none, []⟩,
 ⟨(some 10), .p (.move (.t 39)), none, none, []⟩])
 (.seq (.region 0 [⟨(some 41), .load true 7 (.t 3), none, none, []⟩,
 ⟨(some 42), .load true 3 (.t 4), none, none, []⟩,
 ⟨(some 43), .call 1 25 [(.t 42)], none, none, []⟩,
 ⟨(some 44), .call 1 33 [(.t 41), (.t 43)], none, none, []⟩,
 ⟨(some 40), .p (.move (.t 44)), none, none, []⟩,
 ⟨(some 45), .p (.extract (.t 40) 0), none, none, []⟩,
 ⟨(some 46), .p (.extract (.t 40) 1), none, none, []⟩,
 ⟨(some 11), .p (.move (.t 45)), none, none, []⟩,
 ⟨(some 12), .p (.move (.t 46)), none, none, []⟩])
 (.seq (.seq (.region 0 [⟨(some 47), .p (.move (.t 8)), none, none, []⟩,
 ⟨(some 48), .p (.un .not (.t 47)), none, none, []⟩,
 ⟨(some 49), .p (.move (.t 48)), none, none, []⟩,
 ⟨(some 50), .p (.move (.t 10)), (some (49, false)), none, []⟩,
 ⟨(some 51), .p (.bin .neq (.t 50) (.c (.int .i64 0))), (some (49, false)), none, []⟩,
 ⟨(some 52), .p (.pick (.t 49) (.c (.bool true)) (.t 51)), none, none, []⟩,
 ⟨(some 53), .p (.move (.t 52)), none, none, []⟩,
 ⟨(some 54), .p (.move (.t 12)), (some (53, false)), none, []⟩,
 ⟨(some 55), .p (.bin .neq (.t 54) (.c (.int .i64 0))), (some (53, false)), none, []⟩,
 ⟨(some 56), .p (.pick (.t 53) (.c (.bool true)) (.t 55)), none, none, []⟩,
 ⟨(some 57), .p (.move (.t 56)), none, none, []⟩,
 ⟨(some 58), .load true 7 (.t 3), (some (57, false)), none, []⟩,
 ⟨(some 59), .p (.move (.t 11)), (some (57, false)), none, []⟩,
 ⟨(some 60), .call 1 57 [(.t 58), (.t 59)], (some (57, false)), none, []⟩,
 ⟨(some 61), .p (.un .not (.t 60)), (some (57, false)), none, []⟩,
 ⟨(some 62), .p (.pick (.t 57) (.c (.bool true)) (.t 61)), none, none, []⟩,
 ⟨(some 63), .p (.move (.t 62)), none, none, []⟩,
 ⟨(some 64), .p (.move (.t 9)), (some (63, false)), none, []⟩,
 ⟨(some 65), .p (.fieldAddr 5 (.t 3)), (some (63, false)), none, []⟩,
 ⟨(some 66), .load false 1 (.t 65), (some (63, false)), none, []⟩,
 ⟨(some 67), .p (.lenS (.t 66)), (some (63, false)), none, []⟩,
 ⟨(some 68), .p (.bin .sub (.t 67) (.c (.int .i64 1))), (some (63, false)), none, []⟩,
 ⟨(some 69), .call 1 53 [(.t 64), (.c (.int .i64 0)), (.t 68)], (some (63, false)), none, []⟩,
 ⟨(some 70), .p (.un .not (.t 69)), (some (63, false)), none, []⟩,
 ⟨(some 71), .p (.pick (.t 63) (.c (.bool true)) (.t 70)), none, none, []⟩,
 ⟨(some 72), .p (.move (.t 71)), none, none, []⟩,
 ⟨(some 73), .p (.move (.t 9)), (some (72, false)), none, []⟩,
 ⟨(some 74), .p (.move (.t 2)), (some (72, false)), none, []⟩,
 ⟨(some 75), .call 1 56 [(.t 73), (.t 74)], (some (72, false)), none, []⟩,
 ⟨(some 76), .p (.un .not (.t 75)), (some (72, false)), none, []⟩,
 ⟨(some 77), .p (.pick (.t 72) (.c (.bool true)) (.t 76)), none, none, []⟩,
 ⟨(some 78), .p (.move (.t 77)), none, none, []⟩,
 ⟨(some 79), .p (.move (.t 7)), (some (78, false)), none, []⟩,
 ⟨(some 80), .p (.move (.t 9)), (some (78, false)), none, []⟩,
 ⟨(some 81), .call 1 54 [(.t 79), (.t 80)], (some (78, false)), none, []⟩,
 ⟨(some 82), .p (.un .not (.t 81)), (some (78, false)), none, []⟩,
 ⟨(some 83), .p (.pick (.t 78) (.c (.bool true)) (.t 82)), none, none, []⟩,
 ⟨(some 84), .p (.move (.t 83)), none, none, []⟩,
 ⟨(some 85), .p (.move (.t 7)), (some (84, false)), none, []⟩,
 ⟨(some 86), .p (.move (.t 2)), (some (84, false)), none, []⟩,
 ⟨(some 87), .call 1 56 [(.t 85), (.t 86)], (some (84, false)), none, []⟩,
 ⟨(some 88), .p (.move (.t 87)), (some (84, false)), none, []⟩,
 ⟨(some 89), .p (.move (.t 9)), (some (88, true)), none, []⟩,
 ⟨(some 90), .p (.lenS (.t 89)), (some (88, true)), none, []⟩,
 ⟨(some 91), .p (.move (.t 7)), (some (88, true)), none, []⟩,
 ⟨(some 92), .p (.lenS (.t 91)), (some (88, true)), none, []⟩,
 ⟨(some 93), .p (.bin .neq (.t 90) (.t 92)), (some (88, true)), none, []⟩,
 ⟨(some 94), .p (.pick (.t 88) (.t 93) (.c (.bool false))), (some (84, false)), none, []⟩,
 ⟨(some 95), .p (.pick (.t 84) (.c (.bool true)) (.t 94)), none, none, []⟩])
 (.cond (.t 95) (.seq (.region 0 [⟨(some 6), .p (.move (.c (.bool false))), none, none, []⟩])
 (.ret))
 (.skip)))
 (.seq (.region 0 [⟨(some 97), .load true 7 (.t 3), none, none, []⟩,
 ⟨(some 98), .load true 3 (.t 4), none, none, []⟩,
 ⟨(some 99), .call 1 25 [(.t 98)], none, none, []⟩,
 ⟨(some 100), .p (.move (.t 11)), none, none, []⟩,
 ⟨(some 101), .call 1 31 [(.t 97), (.t 99), (.t 100)], none, none, []⟩,
 ⟨(some 96), .p (.move (.t 101)), none, none, []⟩,
 ⟨(some 102), .p (.extract (.t 96) 0), none, none, []⟩,
 ⟨(some 103), .p (.extract (.t 96) 1), none, none, []⟩,
 ⟨(some 13), .p (.move (.t 102)), none, none, []⟩,
 ⟨(some 14), .p (.move (.t 103)), none, none, []⟩])
 (.seq (.region 0 [⟨(some 104), .p (.move (.t 14)), none, none, []⟩,
 ⟨(some 105), .p (.bin .eql (.t 104) (.c (.int .i64 0))), none, none, []⟩,
 ⟨(some 106), .p (.move (.t 105)), none, none, []⟩,
 ⟨(some 107), .p (.move (.t 13)), (some (106, true)), none, []⟩,
 ⟨(some 108), .p (.lenS (.t 107)), (some (106, true)), none, []⟩,
 ⟨(some 109), .p (.fieldAddr 5 (.t 3)), (some (106, true)), none, []⟩,
 ⟨(some 110), .load false 1 (.t 109), (some (106, true)), none, []⟩,
 ⟨(some 111), .p (.lenS (.t 110)), (some (106, true)), none, []⟩,
 ⟨(some 112), .p (.bin .leq (.t 108) (.t 111)), (some (106, true)), none, []⟩,
 ⟨(some 113), .p (.pick (.t 106) (.t 112) (.c (.bool false))), none, none, []⟩,
 ⟨(some 114), .p (.move (.t 113)), none, none, []⟩,
 ⟨(some 115), .p (.move (.t 13)), (some (114, true)), none, []⟩,
 ⟨(some 116), .p (.lenS (.t 115)), (some (114, true)), none, []⟩,
 ⟨(some 117), .p (.move (.t 9)), (some (114, true)), none, []⟩,
 ⟨(some 118), .p (.lenS (.t 117)), (some (114, true)), none, []⟩,
 ⟨(some 119), .p (.bin .gtr (.t 116) (.t 118)), (some (114, true)), none, []⟩,
 ⟨(some 120), .p (.move (.t 119)), (some (114, true)), none, []⟩,
 ⟨(some 121), .p (.move (.t 13)), (some (120, false)), none, []⟩,
 ⟨(some 122), .p (.lenS (.t 121)), (some (120, false)), none, []⟩,
 ⟨(some 123), .p (.move (.t 9)), (some (120, false)), none, []⟩,
 ⟨(some 124), .p (.lenS (.t 123)), (some (120, false)), none, []⟩,
 ⟨(some 125), .p (.bin .eql (.t 122) (.t 124)), (some (120, false)), none, []⟩,
 ⟨(some 126), .p (.move (.t 125)), (some (120, false)), none, []⟩,
 ⟨(some 127), .p (.move (.t 11)), (some (126, true)), none, []⟩,
 ⟨(some 128), .p (.move (.t 2)), (some (126, true)), none, []⟩,
 ⟨(some 129), .p (.bin .leq (.t 127) (.t 128)), (some (126, true)), none, []⟩,
 ⟨(some 130), .p (.pick (.t 126) (.t 129) (.c (.bool false))), (some (120, false)), none, []⟩,
 ⟨(some 131), .p (.pick (.t 120) (.c (.bool true)) (.t 130)), (some (114, true)), none, []⟩,
 ⟨(some 132), .p (.pick (.t 114) (.t 131) (.c (.bool false))), none, none, []⟩,
 ⟨(some 133), .p (.move (.t 132)), none, none, []⟩,
 ⟨(some 134), .call 1 16 [], (some (133, true)), none, []⟩,
 ⟨(some 135), .p (.pick (.t 133) (.t 134) (.c (.bool false))), none, none, []⟩,
 ⟨(some 6), .p (.move (.t 135)), none, none, []⟩])
 (.ret))))))))⟩
/-- almadraba/almadrabalaw02.Huge -/
def f15 : AFn := ⟨27, [.tmp 4],
 .seq (.region 0 [⟨(some 2), .box (.t 0), none, none, []⟩,
 ⟨(some 3), .box (.t 1), none, none, []⟩,
 ⟨(some 4), .p (.move (.c (.bool false))), none, none, []⟩])
 (.seq (.region 0 [⟨(some 5), .p (.fieldAddr 4 (.t 2)), none, none, []⟩,
 ⟨(some 6), .load false 1 (.t 5), none, none, []⟩,
 ⟨(some 7), .p (.lenS (.t 6)), none, none, []⟩,
 ⟨(some 8), .p (.bin .gtr (.t 7) (.c (.int .i64 40))), none, none, []⟩,
 ⟨(some 9), .p (.move (.t 8)), none, none, []⟩,
 ⟨(some 10), .p (.fieldAddr 5 (.t 2)), (some (9, false)), none, []⟩,
 ⟨(some 11), .load false 1 (.t 10), (some (9, false)), none, []⟩,
 ⟨(some 12), .p (.lenS (.t 11)), (some (9, false)), none, []⟩,
 ⟨(some 13), .p (.bin .gtr (.t 12) (.c (.int .i64 40))), (some (9, false)), none, []⟩,
 ⟨(some 14), .p (.pick (.t 9) (.c (.bool true)) (.t 13)), none, none, []⟩,
 ⟨(some 15), .p (.move (.t 14)), none, none, []⟩,
 ⟨(some 16), .p (.fieldAddr 6 (.t 2)), (some (15, false)), none, []⟩,
 ⟨(some 17), .load false 1 (.t 16), (some (15, false)), none, []⟩,
 ⟨(some 18), .p (.lenS (.t 17)), (some (15, false)), none, []⟩,
 ⟨(some 19), .p (.bin .gtr (.t 18) (.c (.int .i64 40))), (some (15, false)), none, []⟩,
 ⟨(some 20), .p (.pick (.t 15) (.c (.bool true)) (.t 19)), none, none, []⟩,
 ⟨(some 21), .p (.move (.t 20)), none, none, []⟩,
 ⟨(some 22), .p (.fieldAddr 2 (.t 3)), (some (21, false)), none, []⟩,
 ⟨(some 23), .load false 1 (.t 22), (some (21, false)), none, []⟩,
 ⟨(some 24), .p (.lenS (.t 23)), (some (21, false)), none, []⟩,
 ⟨(some 25), .p (.bin .gtr (.t 24) (.c (.int .i64 40))), (some (21, false)), none, []⟩,
 ⟨(some 26), .p (.pick (.t 21) (.c (.bool true)) (.t 25)), none, none, []⟩,
 ⟨(some 4), .p (.move (.t 26)), none, none, []⟩])
 (.ret))⟩
/-- almadraba/almadrabalaw02.works -/
def f16 : AFn := ⟨86, [.tmp 0],
 .seq (.region 0 [⟨(some 0), .p (.move (.c (.bool false))), none, none, []⟩])
 (.seq (.region 0 [⟨(some 15), .call 1 64 [], none, none, []⟩,
 ⟨(some 14), .p (.move (.t 15)), none, none, []⟩,
 ⟨(some 16), .p (.extract (.t 14) 0), none, none, []⟩,
 ⟨(some 17), .p (.extract (.t 14) 1), none, none, []⟩,
 ⟨(some 18), .p (.extract (.t 14) 2), none, none, []⟩,
 ⟨(some 1), .alloc [.int .i64 0, .int .i64 0, .int .i64 0, .int .i64 0, .nils, .nils, .nils], none, none, []⟩,
 ⟨(some 2), .alloc [.int .i64 0, .int .i64 0, .nils], none, none, []⟩,
 ⟨(some 3), .alloc [.int .i64 0, .int .i64 0, .nils], none, none, []⟩,
 ⟨none, .store 7 (.t 1) (.t 16), none, none, []⟩,
 ⟨none, .store 3 (.t 2) (.t 17), none, none, []⟩,
 ⟨none, .store 3 (.t 3) (.t 18), none, none, []⟩])
 (.seq (.region 0 [⟨(some 20), .load true 7 (.t 1), none, none, []⟩,
 ⟨(some 21), .load true 3 (.t 2), none, none, []⟩,
 ⟨(some 22), .call 1 28 [(.t 20), (.t 21)], none, none, []⟩,
 ⟨(some 19), .p (.move (.t 22)), none, none, []⟩,
 ⟨(some 23), .p (.extract (.t 19) 0), none, none, []⟩,
 ⟨(some 24), .p (.extract (.t 19) 1), none, none, []⟩,
 ⟨(some 4), .p (.move (.t 23)), none, none, []⟩,
 ⟨(some 5), .p (.move (.t 24)), none, none, []⟩])
 (.seq (.region 0 [⟨(some 26), .load true 7 (.t 1), none, none, []⟩,
 ⟨(some 27), .call 1 41 [(.t 26), (.c (.int .i64 1))], none, none, []⟩,
 ⟨(some 25), .p (.move (.t 27)), none, none, []⟩,
 ⟨(some 28), .p (.extract (.t 25) 0), none, none, []⟩,
 ⟨(some 29), .p (.extract (.t 25) 1), none, none, []⟩,
 ⟨(some 6), .alloc [.int .i64 0, .int .i64 0], none, none, []⟩,
 ⟨none, .store 2 (.t 6) (.t 28), none, none, []⟩,
 ⟨(some 7), .p (.move (.t 29)), none, none, []⟩])
 (.seq (.region 0 [⟨(some 31), .load true 7 (.t 1), none, none, []⟩,
 ⟨(some 32), .call 1 43 [(.t 31)], none, none, []⟩,
 ⟨(some 30), .p (.move (.t 32)), none, none, []⟩,
 ⟨(some 33), .p (.extract (.t 30) 0), none, none, []⟩,
 ⟨(some 34), .p (.extract (.t 30) 1), none, none, []⟩,
 ⟨(some 8), .p (.move (.t 33)), none, none, []⟩,
 ⟨(some 9), .p (.move (.t 34)), none, none, []⟩])
 (.seq (.region 0 [⟨(some 36), .load true 7 (.t 1), none, none, []⟩,
 ⟨(some 37), .call 1 45 [(.t 36)], none, none, []⟩,
 ⟨(some 35), .p (.move (.t 37)), none, none, []⟩,
 ⟨(some 38), .p (.extract (.t 35) 0), none, none, []⟩,
 ⟨(some 39), .p (.extract (.t 35) 1), none, none, []⟩,
 ⟨(some 10), .p (.move (.t 38)), none, none, []⟩,
 ⟨(some 11), .p (.move (.t 39)), none, none, []⟩])
 (.seq (.region 0 [⟨(some 41), .load true 7 (.t 1), none, none, []⟩,
 ⟨(some 42), .call 1 49 [(.t 41)], none, none, []⟩,
 ⟨(some 40), .p (.move (.t 42)), none, none, []⟩,
 ⟨(some 43), .p (.extract (.t 40) 0), none, none, []⟩,
 ⟨(some 44), .p (.extract (.t 40) 1), none, none, []⟩,
 ⟨(some 12), .p (.move (.t 43)), none, none, []⟩,
 ⟨(some 13), .p (.move (.t 44)), none, none, []⟩])
 (.seq (.region 0 [⟨(some 45), .p (.move (.t 5)), none, none, []⟩,
 ⟨(some 46), .p (.bin .eql (.t 45) (.c (.int .i64 0))), none, none, []⟩,
 ⟨(some 47), .p (.move (.t 46)), none, none, []⟩,
 ⟨(some 48), .p (.move (.t 7)), (some (47, true)), none, []⟩,
 ⟨(some 49), .p (.bin .eql (.t 48) (.c (.int .i64 0))), (some (47, true)), none, []⟩,
 ⟨(some 50), .p (.pick (.t 47) (.t 49) (.c (.bool false))), none, none, []⟩,
 ⟨(some 51), .p (.move (.t 50)), none, none, []⟩,
 ⟨(some 52), .p (.move (.t 9)), (some (51, true)), none, []⟩,
 ⟨(some 53), .p (.bin .eql (.t 52) (.c (.int .i64 0))), (some (51, true)), none, []⟩,
 ⟨(some 54), .p (.pick (.t 51) (.t 53) (.c (.bool false))), none, none, []⟩,
 ⟨(some 55), .p (.move (.t 54)), none, none, []⟩,
 ⟨(some 56), .p (.move (.t 11)), (some (55, true)), none, []⟩,
 ⟨(some 57), .p (.bin .eql (.t 56) (.c (.int .i64 0))), (some (55, true)), none, []⟩,
 ⟨(some 58), .p (.pick (.t 55) (.t 57) (.c (.bool false))), none, none, []⟩,
 ⟨(some 59), .p (.move (.t 58)), none, none, []⟩,
 ⟨(some 60), .p (.move (.t 13)), (some (59, true)), none, []⟩,
 ⟨(some 61), .p (.bin .eql (.t 60) (.c (.int .i64 0))), (some (59, true)), none, []⟩,
 ⟨(some 62), .p (.pick (.t 59) (.t 61) (.c (.bool false))), none, none, []⟩,
 ⟨(some 63), .p (.move (.t 62)), none, none, []⟩,
 ⟨(some 64), .p (.move (.t 4)), (some (63, true)), none, []⟩,
 ⟨(some 65), .litS 1 2 [.int .i64 0] [(0, (.c (.int .i64 1))), (1, (.c (.int .i64 2)))], (some (63, true)), none, []⟩,
 ⟨(some 66), .call 1 30 [(.t 64), (.t 65)], (some (63, true)), none, []⟩,
 ⟨(some 67), .p (.pick (.t 63) (.t 66) (.c (.bool false))), none, none, []⟩,
 ⟨(some 68), .p (.move (.t 67)), none, none, []⟩,
 ⟨(some 69), .load true 2 (.t 6), (some (68, true)), none, []⟩,
 ⟨(some 70), .p (.build [.int .i64 0, .int .i64 0] [(0, 1, (.c (.int .i64 (-11)))), (1, 1, (.c (.int .i64 31)))]), (some (68, true)), none, []⟩,
 ⟨(some 71), .p (.eqS false [true, true] (.t 69) (.t 70)), (some (68, true)), none, []⟩,
 ⟨(some 72), .p (.pick (.t 68) (.t 71) (.c (.bool false))), none, none, []⟩,
 ⟨(some 73), .p (.move (.t 72)), none, none, []⟩,
 ⟨(some 74), .p (.move (.t 8)), (some (73, true)), none, []⟩,
 ⟨(some 75), .p (.bin .eql (.t 74) (.c (.int .i64 1))), (some (73, true)), none, []⟩,
 ⟨(some 76), .p (.pick (.t 73) (.t 75) (.c (.bool false))), none, none, []⟩,
 ⟨(some 77), .p (.move (.t 76)), none, none, []⟩,
 ⟨(some 78), .p (.move (.t 10)), (some (77, true)), none, []⟩,
 ⟨(some 79), .p (.bin .eql (.t 78) (.c (.int .i64 13))), (some (77, true)), none, []⟩,
 ⟨(some 80), .p (.pick (.t 77) (.t 79) (.c (.bool false))), none, none, []⟩,
 ⟨(some 81), .p (.move (.t 80)), none, none, []⟩,
 ⟨(some 82), .p (.move (.t 12)), (some (81, true)), none, []⟩,
 ⟨(some 83), .litS 1 3 [.int .i64 0] [(0, (.c (.int .i64 0))), (1, (.c (.int .i64 6))), (2, (.c (.int .i64 0)))], (some (81, true)), none, []⟩,
 ⟨(some 84), .call 1 30 [(.t 82), (.t 83)], (some (81, true)), none, []⟩,
 ⟨(some 85), .p (.pick (.t 81) (.t 84) (.c (.bool false))), none, none, []⟩,
 ⟨(some 0), .p (.move (.t 85)), none, none, []⟩])
 (.ret))))))))⟩
/-- almadraba/almadrabaref02.Copy -/
def f17 : AFn := ⟨21, [.cell true 7 2],
 .seq (.region 0 [⟨(some 1), .box (.t 0), none, none, []⟩,
 ⟨(some 2), .alloc [.int .i64 0, .int .i64 0, .int .i64 0, .int .i64 0, .nils, .nils, .nils], none, none, []⟩])
 (.seq (.region 0 [⟨(some 4), .load true 7 (.t 1), none, none, []⟩,
 ⟨(some 3), .alloc [.int .i64 0, .int .i64 0, .int .i64 0, .int .i64 0, .nils, .nils, .nils], none, none, []⟩,
 ⟨none, .store 7 (.t 3) (.t 4), none, none, []⟩])
 (.seq (.region 0 [⟨(some 5), .buildSlice 2 0 [.int .i64 0, .int .i64 0] [], none, none, []⟩,
 ⟨(some 6), .p (.fieldAddr 4 (.t 1)), none, none, []⟩,
 ⟨(some 7), .load false 1 (.t 6), none, none, []⟩,
 ⟨(some 8), .append false 2 16 (.t 5) (.t 7), none, none, []⟩,
 ⟨(some 9), .p (.fieldAddr 4 (.t 3)), none, none, []⟩,
 ⟨none, .store 1 (.t 9) (.t 8), none, none, []⟩])
 (.seq (.region 0 [⟨(some 10), .buildSlice 2 0 [.int .i64 0, .int .i64 0] [], none, none, []⟩,
 ⟨(some 11), .p (.fieldAddr 5 (.t 1)), none, none, []⟩,
 ⟨(some 12), .load false 1 (.t 11), none, none, []⟩,
 ⟨(some 13), .append false 2 16 (.t 10) (.t 12), none, none, []⟩,
 ⟨(some 14), .p (.fieldAddr 5 (.t 3)), none, none, []⟩,
 ⟨none, .store 1 (.t 14) (.t 13), none, none, []⟩])
 (.seq (.region 0 [⟨(some 15), .buildSlice 5 0 [.int .i64 0, .int .i64 0, .int .i64 0, .int .i64 0, .int .i64 0] [], none, none, []⟩,
 ⟨(some 16), .p (.fieldAddr 6 (.t 1)), none, none, []⟩,
 ⟨(some 17), .load false 1 (.t 16), none, none, []⟩,
 ⟨(some 18), .append false 5 40 (.t 15) (.t 17), none, none, []⟩,
 ⟨(some 19), .p (.fieldAddr 6 (.t 3)), none, none, []⟩,
 ⟨none, .store 1 (.t 19) (.t 18), none, none, []⟩])
 (.seq (.region 0 [⟨(some 20), .load true 7 (.t 3), none, none, []⟩,
 ⟨none, .store 7 (.t 2) (.t 20), none, none, []⟩])
 (.ret))))))⟩
/-- almadraba/anchors.Check -/
def f18 : AFn := ⟨6, [.tmp 2],
 .seq (.region 0 [⟨(some 1), .box (.t 0), none, none, []⟩,
 ⟨(some 2), .p (.move (.c (.int .i64 0))), none, none, []⟩])
 (.seq (.seq (.region 0 [⟨(some 3), .load true 7 (.t 1), none, none, []⟩,
 ⟨(some 4), .call 1 65 [(.t 3)], none, none, []⟩,
 ⟨(some 5), .p (.un .not (.t 4)), none, none, []⟩])
 (.cond (.t 5) (.seq (.region 0 [⟨(some 2), .p (.move (.c (.int .i64 20))), none, none, []⟩])
 (.ret))
 (.skip)))
 (.seq (.region 0 [⟨(some 2), .p (.move (.c (.int .i64 0))), none, none, []⟩])
 (.ret)))⟩
/-- almadraba/almadrabaref02.Check -/
def f19 : AFn := ⟨123, [.tmp 2],
 .seq (.region 0 [⟨(some 1), .box (.t 0), none, none, []⟩,
 ⟨(some 2), .p (.move (.c (.int .i64 0))), none, none, []⟩])
 (.seq (.seq (.region 0 [⟨(some 7), .p (.fieldAddr 0 (.t 1)), none, none, []⟩,
 ⟨(some 8), .load true 2 (.t 7), none, none, []⟩,
 ⟨(some 9), .call 1 66 [(.t 8), (.c (.int .i64 20))], none, none, []⟩,
 ⟨(some 10), .p (.un .not (.t 9)), none, none, []⟩,
 ⟨(some 11), .p (.move (.t 10)), none, none, []⟩,
 ⟨(some 12), .p (.fieldAddr 2 (.t 1)), (some (11, false)), none, []⟩,
 ⟨(some 13), .load true 2 (.t 12), (some (11, false)), none, []⟩,
 ⟨(some 14), .call 1 66 [(.t 13), (.c (.int .i64 20))], (some (11, false)), none, []⟩,
 ⟨(some 15), .p (.un .not (.t 14)), (some (11, false)), none, []⟩,
 ⟨(some 16), .p (.pick (.t 11) (.c (.bool true)) (.t 15)), none, none, []⟩,
 ⟨(some 17), .p (.move (.t 16)), none, none, []⟩,
 ⟨(some 18), .p (.fieldAddr 4 (.t 1)), (some (17, false)), none, []⟩,
 ⟨(some 19), .load false 1 (.t 18), (some (17, false)), none, []⟩,
 ⟨(some 20), .p (.lenS (.t 19)), (some (17, false)), none, []⟩,
 ⟨(some 21), .p (.bin .gtr (.t 20) (.c (.int .i64 3))), (some (17, false)), none, []⟩,
 ⟨(some 22), .p (.pick (.t 17) (.c (.bool true)) (.t 21)), none, none, []⟩,
 ⟨(some 23), .p (.move (.t 22)), none, none, []⟩,
 ⟨(some 24), .p (.fieldAddr 5 (.t 1)), (some (23, false)), none, []⟩,
 ⟨(some 25), .load false 1 (.t 24), (some (23, false)), none, []⟩,
 ⟨(some 26), .p (.lenS (.t 25)), (some (23, false)), none, []⟩,
 ⟨(some 27), .p (.bin .gtr (.t 26) (.c (.int .i64 6))), (some (23, false)), none, []⟩,
 ⟨(some 28), .p (.pick (.t 23) (.c (.bool true)) (.t 27)), none, none, []⟩,
 ⟨(some 29), .p (.move (.t 28)), none, none, []⟩,
 ⟨(some 30), .p (.fieldAddr 6 (.t 1)), (some (29, false)), none, []⟩,
 ⟨(some 31), .load false 1 (.t 30), (some (29, false)), none, []⟩,
 ⟨(some 32), .p (.lenS (.t 31)), (some (29, false)), none, []⟩,
 ⟨(some 33), .p (.fieldAddr 5 (.t 1)), (some (29, false)), none, []⟩,
 ⟨(some 34), .load false 1 (.t 33), (some (29, false)), none, []⟩,
 ⟨(some 35), .p (.lenS (.t 34)), (some (29, false)), none, []⟩,
 ⟨(some 36), .p (.bin .sub (.t 35) (.c (.int .i64 1))), (some (29, false)), none, []⟩,
 ⟨(some 37), .p (.minmax true (.c (.int .i64 0)) [(.t 36)]), (some (29, false)), none, []⟩,
 ⟨(some 38), .p (.bin .neq (.t 32) (.t 37)), (some (29, false)), none, []⟩,
 ⟨(some 39), .p (.pick (.t 29) (.c (.bool true)) (.t 38)), none, none, []⟩])
 (.cond (.t 39) (.seq (.region 0 [⟨(some 2), .p (.move (.c (.int .i64 20))), none, none, []⟩])
 (.ret))
 (.skip)))
 (.seq (.seq (.region 0 [⟨(some 3), .p (.move (.c (.int .i64 0))), none, none, []⟩])
 (.block 0 (.loop (.seq (.seq (.region 0 [⟨(some 40), .p (.move (.t 3)), none, none, []⟩,
 ⟨(some 41), .p (.fieldAddr 4 (.t 1)), none, none, []⟩,
 ⟨(some 42), .load false 1 (.t 41), none, none, []⟩,
 ⟨(some 43), .p (.lenS (.t 42)), none, none, []⟩,
 ⟨(some 44), .p (.bin .lss (.t 40) (.t 43)), none, none, []⟩])
 (.cond (.t 44) (.skip)
 (.exit 0)))
 (.seq (.block 1 (.seq (.region 0 [⟨(some 47), .p (.fieldAddr 4 (.t 1)), none, none, []⟩,
 ⟨(some 48), .load false 1 (.t 47), none, none, []⟩,
 ⟨(some 49), .p (.move (.t 3)), none, none, []⟩,
 ⟨(some 50), .p (.idxSl 2 (.t 48) (.t 49)), none, none, []⟩,
 ⟨(some 51), .load true 2 (.t 50), none, none, []⟩,
 ⟨(some 52), .call 1 66 [(.t 51), (.c (.int .i64 9))], none, none, []⟩,
 ⟨(some 53), .p (.un .not (.t 52)), none, none, []⟩])
 (.cond (.t 53) (.seq (.region 0 [⟨(some 2), .p (.move (.c (.int .i64 20))), none, none, []⟩])
 (.ret))
 (.skip))))
 (.region 0 [⟨(some 45), .p (.move (.t 3)), none, none, []⟩,
 ⟨(some 46), .p (.bin .add (.t 45) (.c (.int .i64 1))), none, none, []⟩,
 ⟨(some 3), .p (.move (.t 46)), none, none, []⟩]))))))
 (.seq (.seq (.region 0 [⟨(some 4), .p (.move (.c (.int .i64 0))), none, none, []⟩])
 (.block 2 (.loop (.seq (.seq (.region 0 [⟨(some 54), .p (.move (.t 4)), none, none, []⟩,
 ⟨(some 55), .p (.fieldAddr 5 (.t 1)), none, none, []⟩,
 ⟨(some 56), .load false 1 (.t 55), none, none, []⟩,
 ⟨(some 57), .p (.lenS (.t 56)), none, none, []⟩,
 ⟨(some 58), .p (.bin .lss (.t 54) (.t 57)), none, none, []⟩])
 (.cond (.t 58) (.skip)
 (.exit 2)))
 (.seq (.block 3 (.seq (.region 0 [⟨(some 61), .p (.fieldAddr 5 (.t 1)), none, none, []⟩,
 ⟨(some 62), .load false 1 (.t 61), none, none, []⟩,
 ⟨(some 63), .p (.move (.t 4)), none, none, []⟩,
 ⟨(some 64), .p (.idxSl 2 (.t 62) (.t 63)), none, none, []⟩,
 ⟨(some 65), .p (.fieldAddr 0 (.t 64)), none, none, []⟩,
 ⟨(some 66), .load false 1 (.t 65), none, none, []⟩,
 ⟨(some 67), .call 1 67 [(.t 66), (.c (.int .i64 0)), (.c (.int .i64 20))], none, none, []⟩,
 ⟨(some 68), .p (.un .not (.t 67)), none, none, []⟩,
 ⟨(some 69), .p (.move (.t 68)), none, none, []⟩,
 ⟨(some 70), .p (.fieldAddr 5 (.t 1)), (some (69, false)), none, []⟩,
 ⟨(some 71), .load false 1 (.t 70), (some (69, false)), none, []⟩,
 ⟨(some 72), .p (.move (.t 4)), (some (69, false)), none, []⟩,
 ⟨(some 73), .p (.idxSl 2 (.t 71) (.t 72)), (some (69, false)), none, []⟩,
 ⟨(some 74), .p (.fieldAddr 1 (.t 73)), (some (69, false)), none, []⟩,
 ⟨(some 75), .load false 1 (.t 74), (some (69, false)), none, []⟩,
 ⟨(some 76), .p (.fieldAddr 4 (.t 1)), (some (69, false)), none, []⟩,
 ⟨(some 77), .load false 1 (.t 76), (some (69, false)), none, []⟩,
 ⟨(some 78), .p (.lenS (.t 77)), (some (69, false)), none, []⟩,
 ⟨(some 79), .p (.bin .sub (.t 78) (.c (.int .i64 1))), (some (69, false)), none, []⟩,
 ⟨(some 80), .call 1 67 [(.t 75), (.c (.int .i64 0)), (.t 79)], (some (69, false)), none, []⟩,
 ⟨(some 81), .p (.un .not (.t 80)), (some (69, false)), none, []⟩,
 ⟨(some 82), .p (.pick (.t 69) (.c (.bool true)) (.t 81)), none, none, []⟩])
 (.cond (.t 82) (.seq (.region 0 [⟨(some 2), .p (.move (.c (.int .i64 20))), none, none, []⟩])
 (.ret))
 (.skip))))
 (.region 0 [⟨(some 59), .p (.move (.t 4)), none, none, []⟩,
 ⟨(some 60), .p (.bin .add (.t 59) (.c (.int .i64 1))), none, none, []⟩,
 ⟨(some 4), .p (.move (.t 60)), none, none, []⟩]))))))
 (.seq (.seq (.region 0 [⟨(some 5), .p (.move (.c (.int .i64 0))), none, none, []⟩])
 (.block 4 (.loop (.seq (.seq (.region 0 [⟨(some 83), .p (.move (.t 5)), none, none, []⟩,
 ⟨(some 84), .p (.fieldAddr 6 (.t 1)), none, none, []⟩,
 ⟨(some 85), .load false 1 (.t 84), none, none, []⟩,
 ⟨(some 86), .p (.lenS (.t 85)), none, none, []⟩,
 ⟨(some 87), .p (.bin .lss (.t 83) (.t 86)), none, none, []⟩])
 (.cond (.t 87) (.skip)
 (.exit 4)))
 (.seq (.block 5 (.seq (.region 0 [⟨(some 90), .p (.fieldAddr 6 (.t 1)), none, none, []⟩,
 ⟨(some 91), .load false 1 (.t 90), none, none, []⟩,
 ⟨(some 92), .p (.move (.t 5)), none, none, []⟩,
 ⟨(some 93), .p (.idxSl 5 (.t 91) (.t 92)), none, none, []⟩,
 ⟨(some 94), .load true 5 (.t 93), none, none, []⟩,
 ⟨(some 6), .alloc [.int .i64 0, .int .i64 0, .int .i64 0, .int .i64 0, .int .i64 0], none, none, []⟩,
 ⟨none, .store 5 (.t 6) (.t 94), none, none, []⟩])
 (.seq (.region 0 [⟨(some 95), .p (.fieldAddr 0 (.t 6)), none, none, []⟩,
 ⟨(some 96), .load false 1 (.t 95), none, none, []⟩,
 ⟨(some 97), .call 1 67 [(.t 96), (.c (.int .i64 0)), (.c (.int .i64 9))], none, none, []⟩,
 ⟨(some 98), .p (.un .not (.t 97)), none, none, []⟩,
 ⟨(some 99), .p (.move (.t 98)), none, none, []⟩,
 ⟨(some 100), .p (.fieldAddr 1 (.t 6)), (some (99, false)), none, []⟩,
 ⟨(some 101), .load false 1 (.t 100), (some (99, false)), none, []⟩,
 ⟨(some 102), .call 1 67 [(.t 101), (.c (.int .i64 0)), (.c (.int .i64 9))], (some (99, false)), none, []⟩,
 ⟨(some 103), .p (.un .not (.t 102)), (some (99, false)), none, []⟩,
 ⟨(some 104), .p (.pick (.t 99) (.c (.bool true)) (.t 103)), none, none, []⟩,
 ⟨(some 105), .p (.move (.t 104)), none, none, []⟩,
 ⟨(some 106), .p (.fieldAddr 2 (.t 6)), (some (105, false)), none, []⟩,
 ⟨(some 107), .load false 1 (.t 106), (some (105, false)), none, []⟩,
 ⟨(some 108), .call 1 67 [(.t 107), (.c (.int .i64 0)), (.c (.int .i64 9))], (some (105, false)), none, []⟩,
 ⟨(some 109), .p (.un .not (.t 108)), (some (105, false)), none, []⟩,
 ⟨(some 110), .p (.pick (.t 105) (.c (.bool true)) (.t 109)), none, none, []⟩,
 ⟨(some 111), .p (.move (.t 110)), none, none, []⟩,
 ⟨(some 112), .p (.fieldAddr 3 (.t 6)), (some (111, false)), none, []⟩,
 ⟨(some 113), .load false 1 (.t 112), (some (111, false)), none, []⟩,
 ⟨(some 114), .call 1 67 [(.t 113), (.c (.int .i64 0)), (.c (.int .i64 99))], (some (111, false)), none, []⟩,
 ⟨(some 115), .p (.un .not (.t 114)), (some (111, false)), none, []⟩,
 ⟨(some 116), .p (.pick (.t 111) (.c (.bool true)) (.t 115)), none, none, []⟩,
 ⟨(some 117), .p (.move (.t 116)), none, none, []⟩,
 ⟨(some 118), .p (.fieldAddr 4 (.t 6)), (some (117, false)), none, []⟩,
 ⟨(some 119), .load false 1 (.t 118), (some (117, false)), none, []⟩,
 ⟨(some 120), .call 1 67 [(.t 119), (.c (.int .i64 0)), (.c (.int .i64 99))], (some (117, false)), none, []⟩,
 ⟨(some 121), .p (.un .not (.t 120)), (some (117, false)), none, []⟩,
 ⟨(some 122), .p (.pick (.t 117) (.c (.bool true)) (.t 121)), none, none, []⟩])
 (.cond (.t 122) (.seq (.region 0 [⟨(some 2), .p (.move (.c (.int .i64 20))), none, none, []⟩])
 (.ret))
 (.skip)))))
 (.region 0 [⟨(some 88), .p (.move (.t 5)), none, none, []⟩,
 ⟨(some 89), .p (.bin .add (.t 88) (.c (.int .i64 1))), none, none, []⟩,
 ⟨(some 5), .p (.move (.t 89)), none, none, []⟩]))))))
 (.seq (.region 0 [⟨(some 2), .p (.move (.c (.int .i64 0))), none, none, []⟩])
 (.ret))))))⟩
/-- almadraba/anchors.Load -/
def f20 : AFn := ⟨33, [.tmp 8, .tmp 9],
 .seq (.region 0 [⟨(some 4), .box (.t 0), none, none, []⟩,
 ⟨(some 8), .p (.move (.c (.int .i64 0))), none, none, []⟩,
 ⟨(some 9), .p (.move (.c (.int .i64 0))), none, none, []⟩])
 (.seq (.seq (.region 0 [⟨(some 11), .load true 7 (.t 4), none, none, []⟩,
 ⟨(some 12), .load true 7 (.t 4), none, none, []⟩,
 ⟨(some 13), .p (.move (.t 1)), none, none, []⟩,
 ⟨(some 14), .call 1 69 [(.t 12), (.t 13)], none, none, []⟩,
 ⟨(some 15), .p (.move (.t 14)), none, none, []⟩,
 ⟨(some 16), .p (.move (.t 2)), (some (15, true)), none, []⟩,
 ⟨(some 17), .p (.move (.t 3)), (some (15, true)), none, []⟩,
 ⟨(some 18), .litS 1 2 [.int .i64 0] [(0, (.t 16)), (1, (.t 17))], (some (15, true)), none, []⟩,
 ⟨(some 19), .call 1 70 [(.c (.int .i64 20)), (.t 18)], (some (15, true)), none, []⟩,
 ⟨(some 20), .p (.pick (.t 15) (.t 19) (.c (.bool false))), none, none, []⟩,
 ⟨(some 21), .call 1 68 [(.t 11), (.t 20)], none, none, []⟩,
 ⟨(some 10), .p (.move (.t 21)), none, none, []⟩])
 (.seq (.region 0 [⟨(some 22), .p (.move (.t 10)), none, none, []⟩,
 ⟨(some 23), .p (.bin .neq (.t 22) (.c (.int .i64 0))), none, none, []⟩])
 (.cond (.t 23) (.seq (.region 0 [⟨(some 24), .p (.move (.t 10)), none, none, []⟩,
 ⟨(some 8), .p (.move (.c (.int .i64 0))), none, none, []⟩,
 ⟨(some 9), .p (.move (.t 24)), none, none, []⟩])
 (.ret))
 (.skip))))
 (.seq (.region 0 [⟨(some 25), .p (.fieldAddr 6 (.t 4)), none, none, []⟩,
 ⟨(some 26), .load false 1 (.t 25), none, none, []⟩,
 ⟨(some 27), .p (.move (.t 1)), none, none, []⟩,
 ⟨(some 28), .p (.idxSl 5 (.t 26) (.t 27)), none, none, []⟩,
 ⟨(some 29), .load true 5 (.t 28), none, none, []⟩,
 ⟨(some 30), .p (.move (.t 2)), none, none, []⟩,
 ⟨(some 31), .p (.move (.t 3)), none, none, []⟩,
 ⟨(some 32), .call 1 71 [(.t 29), (.t 30), (.t 31)], none, none, []⟩,
 ⟨(some 8), .p (.move (.t 32)), none, none, []⟩,
 ⟨(some 9), .p (.move (.c (.int .i64 0))), none, none, []⟩])
 (.ret)))⟩
/-- almadraba/almadrabaref02.Load -/
def f21 : AFn := ⟨35, [.tmp 8, .tmp 9],
 .seq (.region 0 [⟨(some 4), .box (.t 0), none, none, []⟩,
 ⟨(some 8), .p (.move (.c (.int .i64 0))), none, none, []⟩,
 ⟨(some 9), .p (.move (.c (.int .i64 0))), none, none, []⟩])
 (.seq (.seq (.region 0 [⟨(some 11), .load true 7 (.t 4), none, none, []⟩,
 ⟨(some 12), .load true 7 (.t 4), none, none, []⟩,
 ⟨(some 13), .p (.move (.t 1)), none, none, []⟩,
 ⟨(some 14), .call 1 63 [(.t 12), (.t 13)], none, none, []⟩,
 ⟨(some 15), .p (.move (.t 14)), none, none, []⟩,
 ⟨(some 16), .p (.move (.t 2)), (some (15, true)), none, []⟩,
 ⟨(some 17), .call 1 73 [(.t 16)], (some (15, true)), none, []⟩,
 ⟨(some 18), .p (.pick (.t 15) (.t 17) (.c (.bool false))), none, none, []⟩,
 ⟨(some 19), .p (.move (.t 18)), none, none, []⟩,
 ⟨(some 20), .p (.move (.t 3)), (some (19, true)), none, []⟩,
 ⟨(some 21), .call 1 73 [(.t 20)], (some (19, true)), none, []⟩,
 ⟨(some 22), .p (.pick (.t 19) (.t 21) (.c (.bool false))), none, none, []⟩,
 ⟨(some 23), .call 1 72 [(.t 11), (.t 22)], none, none, []⟩,
 ⟨(some 10), .p (.move (.t 23)), none, none, []⟩])
 (.seq (.region 0 [⟨(some 24), .p (.move (.t 10)), none, none, []⟩,
 ⟨(some 25), .p (.bin .neq (.t 24) (.c (.int .i64 0))), none, none, []⟩])
 (.cond (.t 25) (.seq (.region 0 [⟨(some 26), .p (.move (.t 10)), none, none, []⟩,
 ⟨(some 8), .p (.move (.c (.int .i64 0))), none, none, []⟩,
 ⟨(some 9), .p (.move (.t 26)), none, none, []⟩])
 (.ret))
 (.skip))))
 (.seq (.region 0 [⟨(some 27), .p (.fieldAddr 6 (.t 4)), none, none, []⟩,
 ⟨(some 28), .load false 1 (.t 27), none, none, []⟩,
 ⟨(some 29), .p (.move (.t 1)), none, none, []⟩,
 ⟨(some 30), .p (.idxSl 5 (.t 28) (.t 29)), none, none, []⟩,
 ⟨(some 31), .load true 5 (.t 30), none, none, []⟩,
 ⟨(some 32), .p (.move (.t 2)), none, none, []⟩,
 ⟨(some 33), .p (.move (.t 3)), none, none, []⟩,
 ⟨(some 34), .call 1 74 [(.t 31), (.t 32), (.t 33)], none, none, []⟩,
 ⟨(some 8), .p (.move (.t 34)), none, none, []⟩,
 ⟨(some 9), .p (.move (.c (.int .i64 0))), none, none, []⟩])
 (.ret)))⟩
/-- almadraba/anchors.Upright -/
def f22 : AFn := ⟨34, [.tmp 4, .tmp 5],
 .seq (.region 0 [⟨(some 2), .box (.t 0), none, none, []⟩,
 ⟨(some 4), .p (.move (.c (.int .i64 0))), none, none, []⟩,
 ⟨(some 5), .p (.move (.c (.int .i64 0))), none, none, []⟩])
 (.seq (.seq (.region 0 [⟨(some 9), .load true 7 (.t 2), none, none, []⟩,
 ⟨(some 10), .load true 7 (.t 2), none, none, []⟩,
 ⟨(some 11), .p (.move (.t 1)), none, none, []⟩,
 ⟨(some 12), .call 1 69 [(.t 10), (.t 11)], none, none, []⟩,
 ⟨(some 13), .call 1 68 [(.t 9), (.t 12)], none, none, []⟩,
 ⟨(some 6), .p (.move (.t 13)), none, none, []⟩])
 (.seq (.region 0 [⟨(some 14), .p (.move (.t 6)), none, none, []⟩,
 ⟨(some 15), .p (.bin .neq (.t 14) (.c (.int .i64 0))), none, none, []⟩])
 (.cond (.t 15) (.seq (.region 0 [⟨(some 16), .p (.move (.t 6)), none, none, []⟩,
 ⟨(some 4), .p (.move (.c (.int .i64 0))), none, none, []⟩,
 ⟨(some 5), .p (.move (.t 16)), none, none, []⟩])
 (.ret))
 (.skip))))
 (.seq (.region 0 [⟨(some 17), .p (.fieldAddr 6 (.t 2)), none, none, []⟩,
 ⟨(some 18), .load false 1 (.t 17), none, none, []⟩,
 ⟨(some 19), .p (.move (.t 1)), none, none, []⟩,
 ⟨(some 20), .p (.idxSl 5 (.t 18) (.t 19)), none, none, []⟩,
 ⟨(some 21), .load true 5 (.t 20), none, none, []⟩,
 ⟨(some 7), .alloc [.int .i64 0, .int .i64 0, .int .i64 0, .int .i64 0, .int .i64 0], none, none, []⟩,
 ⟨none, .store 5 (.t 7) (.t 21), none, none, []⟩])
 (.seq (.region 0 [⟨(some 22), .p (.mkFn 75 [] [(.t 7)]), none, none, []⟩,
 ⟨(some 8), .p (.move (.t 22)), none, none, []⟩])
 (.seq (.region 0 [⟨(some 23), .p (.move (.t 8)), none, none, []⟩,
 ⟨(some 24), .p (.fieldAddr 2 (.t 2)), none, none, []⟩,
 ⟨(some 25), .p (.fieldAddr 1 (.t 24)), none, none, []⟩,
 ⟨(some 26), .load false 1 (.t 25), none, none, []⟩,
 ⟨(some 27), .callv true (.t 23) [(.t 26)], none, none, []⟩,
 ⟨(some 28), .p (.move (.t 8)), none, none, []⟩,
 ⟨(some 29), .p (.fieldAddr 2 (.t 2)), none, none, []⟩,
 ⟨(some 30), .p (.fieldAddr 0 (.t 29)), none, none, []⟩,
 ⟨(some 31), .load false 1 (.t 30), none, none, []⟩,
 ⟨(some 32), .callv true (.t 28) [(.t 31)], none, none, []⟩,
 ⟨(some 33), .call 1 76 [(.t 27), (.t 32)], none, none, []⟩,
 ⟨(some 4), .p (.move (.t 33)), none, none, []⟩,
 ⟨(some 5), .p (.move (.c (.int .i64 0))), none, none, []⟩])
 (.ret)))))⟩
/-- almadraba/almadrabaref02.Upright -/
def f23 : AFn := ⟨42, [.tmp 4, .tmp 5],
 .seq (.region 0 [⟨(some 2), .box (.t 0), none, none, []⟩,
 ⟨(some 4), .p (.move (.c (.int .i64 0))), none, none, []⟩,
 ⟨(some 5), .p (.move (.c (.int .i64 0))), none, none, []⟩])
 (.seq (.seq (.region 0 [⟨(some 10), .load true 7 (.t 2), none, none, []⟩,
 ⟨(some 11), .load true 7 (.t 2), none, none, []⟩,
 ⟨(some 12), .p (.move (.t 1)), none, none, []⟩,
 ⟨(some 13), .call 1 63 [(.t 11), (.t 12)], none, none, []⟩,
 ⟨(some 14), .call 1 72 [(.t 10), (.t 13)], none, none, []⟩,
 ⟨(some 6), .p (.move (.t 14)), none, none, []⟩])
 (.seq (.region 0 [⟨(some 15), .p (.move (.t 6)), none, none, []⟩,
 ⟨(some 16), .p (.bin .neq (.t 15) (.c (.int .i64 0))), none, none, []⟩])
 (.cond (.t 16) (.seq (.region 0 [⟨(some 17), .p (.move (.t 6)), none, none, []⟩,
 ⟨(some 4), .p (.move (.c (.int .i64 0))), none, none, []⟩,
 ⟨(some 5), .p (.move (.t 17)), none, none, []⟩])
 (.ret))
 (.skip))))
 (.seq (.region 0 [⟨(some 7), .p (.move (.c (.int .i64 0))), none, none, []⟩,
 ⟨(some 8), .p (.move (.c (.int .i64 0))), none, none, []⟩])
 (.seq (.seq (.region 0 [⟨(some 18), .p (.fieldAddr 2 (.t 2)), none, none, []⟩,
 ⟨(some 19), .p (.fieldAddr 0 (.t 18)), none, none, []⟩,
 ⟨(some 20), .load false 1 (.t 19), none, none, []⟩,
 ⟨(some 9), .p (.move (.t 20)), none, none, []⟩])
 (.block 0 (.loop (.seq (.seq (.region 0 [⟨(some 21), .p (.move (.t 9)), none, none, []⟩,
 ⟨(some 22), .p (.fieldAddr 2 (.t 2)), none, none, []⟩,
 ⟨(some 23), .p (.fieldAddr 1 (.t 22)), none, none, []⟩,
 ⟨(some 24), .load false 1 (.t 23), none, none, []⟩,
 ⟨(some 25), .p (.bin .leq (.t 21) (.t 24)), none, none, []⟩])
 (.cond (.t 25) (.skip)
 (.exit 0)))
 (.seq (.block 1 (.seq (.region 0 [⟨(some 28), .p (.move (.t 8)), none, none, []⟩,
 ⟨(some 29), .p (.bin .add (.t 28) (.c (.int .i64 1))), none, none, []⟩,
 ⟨(some 8), .p (.move (.t 29)), none, none, []⟩])
 (.seq (.region 0 [⟨(some 30), .p (.fieldAddr 6 (.t 2)), none, none, []⟩,
 ⟨(some 31), .load false 1 (.t 30), none, none, []⟩,
 ⟨(some 32), .p (.move (.t 1)), none, none, []⟩,
 ⟨(some 33), .p (.idxSl 5 (.t 31) (.t 32)), none, none, []⟩,
 ⟨(some 34), .load true 5 (.t 33), none, none, []⟩,
 ⟨(some 35), .p (.move (.t 9)), none, none, []⟩,
 ⟨(some 36), .call 1 77 [(.t 34), (.t 35)], none, none, []⟩])
 (.cond (.t 36) (.region 0 [⟨(some 37), .p (.move (.t 7)), none, none, []⟩,
 ⟨(some 38), .p (.bin .add (.t 37) (.c (.int .i64 1))), none, none, []⟩,
 ⟨(some 7), .p (.move (.t 38)), none, none, []⟩])
 (.skip)))))
 (.region 0 [⟨(some 26), .p (.move (.t 9)), none, none, []⟩,
 ⟨(some 27), .p (.bin .add (.t 26) (.c (.int .i64 1))), none, none, []⟩,
 ⟨(some 9), .p (.move (.t 27)), none, none, []⟩]))))))
 (.seq (.region 0 [⟨(some 39), .p (.move (.t 7)), none, none, []⟩,
 ⟨(some 40), .p (.move (.t 8)), none, none, []⟩,
 ⟨(some 41), .call 1 78 [(.t 39), (.t 40)], none, none, []⟩,
 ⟨(some 4), .p (.move (.t 41)), none, none, []⟩,
 ⟨(some 5), .p (.move (.c (.int .i64 0))), none, none, []⟩])
 (.ret)))))⟩
/-- almadraba/almadrabalaw02.Same -/
def f24 : AFn := ⟨101, [.tmp 4],
 .seq (.region 0 [⟨(some 2), .box (.t 0), none, none, []⟩,
 ⟨(some 3), .box (.t 1), none, none, []⟩,
 ⟨(some 4), .p (.move (.c (.bool false))), none, none, []⟩])
 (.seq (.seq (.region 0 [⟨(some 8), .p (.fieldAddr 0 (.t 2)), none, none, []⟩,
 ⟨(some 9), .load true 2 (.t 8), none, none, []⟩,
 ⟨(some 10), .p (.fieldAddr 0 (.t 3)), none, none, []⟩,
 ⟨(some 11), .load true 2 (.t 10), none, none, []⟩,
 ⟨(some 12), .p (.eqS true [true, true] (.t 9) (.t 11)), none, none, []⟩,
 ⟨(some 13), .p (.move (.t 12)), none, none, []⟩,
 ⟨(some 14), .p (.fieldAddr 2 (.t 2)), (some (13, false)), none, []⟩,
 ⟨(some 15), .load true 2 (.t 14), (some (13, false)), none, []⟩,
 ⟨(some 16), .p (.fieldAddr 2 (.t 3)), (some (13, false)), none, []⟩,
 ⟨(some 17), .load true 2 (.t 16), (some (13, false)), none, []⟩,
 ⟨(some 18), .p (.eqS true [true, true] (.t 15) (.t 17)), (some (13, false)), none, []⟩,
 ⟨(some 19), .p (.pick (.t 13) (.c (.bool true)) (.t 18)), none, none, []⟩,
 ⟨(some 20), .p (.move (.t 19)), none, none, []⟩,
 ⟨(some 21), .p (.fieldAddr 4 (.t 2)), (some (20, false)), none, []⟩,
 ⟨(some 22), .load false 1 (.t 21), (some (20, false)), none, []⟩,
 ⟨(some 23), .p (.lenS (.t 22)), (some (20, false)), none, []⟩,
 ⟨(some 24), .p (.fieldAddr 4 (.t 3)), (some (20, false)), none, []⟩,
 ⟨(some 25), .load false 1 (.t 24), (some (20, false)), none, []⟩,
 ⟨(some 26), .p (.lenS (.t 25)), (some (20, false)), none, []⟩,
 ⟨(some 27), .p (.bin .neq (.t 23) (.t 26)), (some (20, false)), none, []⟩,
 ⟨(some 28), .p (.pick (.t 20) (.c (.bool true)) (.t 27)), none, none, []⟩,
 ⟨(some 29), .p (.move (.t 28)), none, none, []⟩,
 ⟨(some 30), .p (.fieldAddr 5 (.t 2)), (some (29, false)), none, []⟩,
 ⟨(some 31), .load false 1 (.t 30), (some (29, false)), none, []⟩,
 ⟨(some 32), .p (.lenS (.t 31)), (some (29, false)), none, []⟩,
 ⟨(some 33), .p (.fieldAddr 5 (.t 3)), (some (29, false)), none, []⟩,
 ⟨(some 34), .load false 1 (.t 33), (some (29, false)), none, []⟩,
 ⟨(some 35), .p (.lenS (.t 34)), (some (29, false)), none, []⟩,
 ⟨(some 36), .p (.bin .neq (.t 32) (.t 35)), (some (29, false)), none, []⟩,
 ⟨(some 37), .p (.pick (.t 29) (.c (.bool true)) (.t 36)), none, none, []⟩,
 ⟨(some 38), .p (.move (.t 37)), none, none, []⟩,
 ⟨(some 39), .p (.fieldAddr 6 (.t 2)), (some (38, false)), none, []⟩,
 ⟨(some 40), .load false 1 (.t 39), (some (38, false)), none, []⟩,
 ⟨(some 41), .p (.lenS (.t 40)), (some (38, false)), none, []⟩,
 ⟨(some 42), .p (.fieldAddr 6 (.t 3)), (some (38, false)), none, []⟩,
 ⟨(some 43), .load false 1 (.t 42), (some (38, false)), none, []⟩,
 ⟨(some 44), .p (.lenS (.t 43)), (some (38, false)), none, []⟩,
 ⟨(some 45), .p (.bin .neq (.t 41) (.t 44)), (some (38, false)), none, []⟩,
 ⟨(some 46), .p (.pick (.t 38) (.c (.bool true)) (.t 45)), none, none, []⟩])
 (.cond (.t 46) (.seq (.region 0 [⟨(some 4), .p (.move (.c (.bool false))), none, none, []⟩])
 (.ret))
 (.skip)))
 (.seq (.seq (.region 0 [⟨(some 5), .p (.move (.c (.int .i64 0))), none, none, []⟩])
 (.block 0 (.loop (.seq (.seq (.region 0 [⟨(some 47), .p (.move (.t 5)), none, none, []⟩,
 ⟨(some 48), .p (.fieldAddr 4 (.t 2)), none, none, []⟩,
 ⟨(some 49), .load false 1 (.t 48), none, none, []⟩,
 ⟨(some 50), .p (.lenS (.t 49)), none, none, []⟩,
 ⟨(some 51), .p (.bin .lss (.t 47) (.t 50)), none, none, []⟩])
 (.cond (.t 51) (.skip)
 (.exit 0)))
 (.seq (.block 1 (.seq (.region 0 [⟨(some 54), .p (.fieldAddr 4 (.t 2)), none, none, []⟩,
 ⟨(some 55), .load false 1 (.t 54), none, none, []⟩,
 ⟨(some 56), .p (.move (.t 5)), none, none, []⟩,
 ⟨(some 57), .p (.idxSl 2 (.t 55) (.t 56)), none, none, []⟩,
 ⟨(some 58), .load true 2 (.t 57), none, none, []⟩,
 ⟨(some 59), .p (.fieldAddr 4 (.t 3)), none, none, []⟩,
 ⟨(some 60), .load false 1 (.t 59), none, none, []⟩,
 ⟨(some 61), .p (.move (.t 5)), none, none, []⟩,
 ⟨(some 62), .p (.idxSl 2 (.t 60) (.t 61)), none, none, []⟩,
 ⟨(some 63), .load true 2 (.t 62), none, none, []⟩,
 ⟨(some 64), .p (.eqS true [true, true] (.t 58) (.t 63)), none, none, []⟩])
 (.cond (.t 64) (.seq (.region 0 [⟨(some 4), .p (.move (.c (.bool false))), none, none, []⟩])
 (.ret))
 (.skip))))
 (.region 0 [⟨(some 52), .p (.move (.t 5)), none, none, []⟩,
 ⟨(some 53), .p (.bin .add (.t 52) (.c (.int .i64 1))), none, none, []⟩,
 ⟨(some 5), .p (.move (.t 53)), none, none, []⟩]))))))
 (.seq (.seq (.region 0 [⟨(some 6), .p (.move (.c (.int .i64 0))), none, none, []⟩])
 (.block 2 (.loop (.seq (.seq (.region 0 [⟨(some 65), .p (.move (.t 6)), none, none, []⟩,
 ⟨(some 66), .p (.fieldAddr 5 (.t 2)), none, none, []⟩,
 ⟨(some 67), .load false 1 (.t 66), none, none, []⟩,
 ⟨(some 68), .p (.lenS (.t 67)), none, none, []⟩,
 ⟨(some 69), .p (.bin .lss (.t 65) (.t 68)), none, none, []⟩])
 (.cond (.t 69) (.skip)
 (.exit 2)))
 (.seq (.block 3 (.seq (.region 0 [⟨(some 72), .p (.fieldAddr 5 (.t 2)), none, none, []⟩,
 ⟨(some 73), .load false 1 (.t 72), none, none, []⟩,
 ⟨(some 74), .p (.move (.t 6)), none, none, []⟩,
 ⟨(some 75), .p (.idxSl 2 (.t 73) (.t 74)), none, none, []⟩,
 ⟨(some 76), .load true 2 (.t 75), none, none, []⟩,
 ⟨(some 77), .p (.fieldAddr 5 (.t 3)), none, none, []⟩,
 ⟨(some 78), .load false 1 (.t 77), none, none, []⟩,
 ⟨(some 79), .p (.move (.t 6)), none, none, []⟩,
 ⟨(some 80), .p (.idxSl 2 (.t 78) (.t 79)), none, none, []⟩,
 ⟨(some 81), .load true 2 (.t 80), none, none, []⟩,
 ⟨(some 82), .p (.eqS true [true, true] (.t 76) (.t 81)), none, none, []⟩])
 (.cond (.t 82) (.seq (.region 0 [⟨(some 4), .p (.move (.c (.bool false))), none, none, []⟩])
 (.ret))
 (.skip))))
 (.region 0 [⟨(some 70), .p (.move (.t 6)), none, none, []⟩,
 ⟨(some 71), .p (.bin .add (.t 70) (.c (.int .i64 1))), none, none, []⟩,
 ⟨(some 6), .p (.move (.t 71)), none, none, []⟩]))))))
 (.seq (.seq (.region 0 [⟨(some 7), .p (.move (.c (.int .i64 0))), none, none, []⟩])
 (.block 4 (.loop (.seq (.seq (.region 0 [⟨(some 83), .p (.move (.t 7)), none, none, []⟩,
 ⟨(some 84), .p (.fieldAddr 6 (.t 2)), none, none, []⟩,
 ⟨(some 85), .load false 1 (.t 84), none, none, []⟩,
 ⟨(some 86), .p (.lenS (.t 85)), none, none, []⟩,
 ⟨(some 87), .p (.bin .lss (.t 83) (.t 86)), none, none, []⟩])
 (.cond (.t 87) (.skip)
 (.exit 4)))
 (.seq (.block 5 (.seq (.region 0 [⟨(some 90), .p (.fieldAddr 6 (.t 2)), none, none, []⟩,
 ⟨(some 91), .load false 1 (.t 90), none, none, []⟩,
 ⟨(some 92), .p (.move (.t 7)), none, none, []⟩,
 ⟨(some 93), .p (.idxSl 5 (.t 91) (.t 92)), none, none, []⟩,
 ⟨(some 94), .load true 5 (.t 93), none, none, []⟩,
 ⟨(some 95), .p (.fieldAddr 6 (.t 3)), none, none, []⟩,
 ⟨(some 96), .load false 1 (.t 95), none, none, []⟩,
 ⟨(some 97), .p (.move (.t 7)), none, none, []⟩,
 ⟨(some 98), .p (.idxSl 5 (.t 96) (.t 97)), none, none, []⟩,
 ⟨(some 99), .load true 5 (.t 98), none, none, []⟩,
 ⟨(some 100), .p (.eqS true [true, true, true, true, true] (.t 94) (.t 99)), none, none, []⟩])
 (.cond (.t 100) (.seq (.region 0 [⟨(some 4), .p (.move (.c (.bool false))), none, none, []⟩])
 (.ret))
 (.skip))))
 (.region 0 [⟨(some 88), .p (.move (.t 7)), none, none, []⟩,
 ⟨(some 89), .p (.bin .add (.t 88) (.c (.int .i64 1))), none, none, []⟩,
 ⟨(some 7), .p (.move (.t 89)), none, none, []⟩]))))))
 (.seq (.region 0 [⟨(some 4), .p (.move (.c (.bool true))), none, none, []⟩])
 (.ret))))))⟩
/-- almadraba/almadrabaref02.CopyTruth -/
def f25 : AFn := ⟨12, [.cell true 3 2],
 .seq (.region 0 [⟨(some 1), .box (.t 0), none, none, []⟩,
 ⟨(some 2), .alloc [.int .i64 0, .int .i64 0, .nils], none, none, []⟩])
 (.seq (.region 2 [⟨(some 3), .p (.fieldAddr 0 (.t 1)), none, none, []⟩,
 ⟨(some 4), .load false 1 (.t 3), none, none, [0, 1]⟩,
 ⟨(some 5), .p (.fieldAddr 1 (.t 1)), none, none, []⟩,
 ⟨(some 6), .load false 1 (.t 5), none, none, [0, 1]⟩,
 ⟨(some 7), .buildSlice 1 0 [.int .i64 0] [], none, (some 0), []⟩,
 ⟨(some 8), .p (.fieldAddr 2 (.t 1)), none, none, []⟩,
 ⟨(some 9), .load false 1 (.t 8), none, none, [0, 1]⟩,
 ⟨(some 10), .append true 1 8 (.t 7) (.t 9), none, (some 1), []⟩,
 ⟨(some 11), .p (.build [.int .i64 0, .int .i64 0, .nils] [(0, 1, (.t 4)), (1, 1, (.t 6)), (2, 1, (.t 10))]), none, none, []⟩,
 ⟨none, .store 3 (.t 2) (.t 11), none, none, []⟩])
 (.ret))⟩
/-- almadraba/anchors.First -/
def f26 : AFn := ⟨20, [.tmp 4, .tmp 5],
 .seq (.region 0 [⟨(some 2), .box (.t 0), none, none, []⟩,
 ⟨(some 3), .box (.t 1), none, none, []⟩,
 ⟨(some 4), .p (.move (.c (.nils))), none, none, []⟩,
 ⟨(some 5), .p (.move (.c (.int .i64 0))), none, none, []⟩])
 (.seq (.seq (.region 0 [⟨(some 7), .load true 7 (.t 2), none, none, []⟩,
 ⟨(some 8), .load true 7 (.t 2), none, none, []⟩,
 ⟨(some 9), .load true 3 (.t 3), none, none, []⟩,
 ⟨(some 10), .call 1 79 [(.t 8), (.t 9)], none, none, []⟩,
 ⟨(some 11), .call 1 68 [(.t 7), (.t 10)], none, none, []⟩,
 ⟨(some 6), .p (.move (.t 11)), none, none, []⟩])
 (.seq (.region 0 [⟨(some 12), .p (.move (.t 6)), none, none, []⟩,
 ⟨(some 13), .p (.bin .neq (.t 12) (.c (.int .i64 0))), none, none, []⟩])
 (.cond (.t 13) (.seq (.region 0 [⟨(some 14), .p (.move (.t 6)), none, none, []⟩,
 ⟨(some 4), .p (.move (.c (.nils))), none, none, []⟩,
 ⟨(some 5), .p (.move (.t 14)), none, none, []⟩])
 (.ret))
 (.skip))))
 (.seq (.region 0 [⟨(some 15), .load true 7 (.t 2), none, none, []⟩,
 ⟨(some 16), .load true 3 (.t 3), none, none, []⟩,
 ⟨(some 17), .p (.build [.int .i64 0, .int .i64 0, .int .i64 0, .int .i64 0, .nils, .nils, .nils, .int .i64 0, .int .i64 0, .nils] [(0, 7, (.t 15)), (7, 3, (.t 16))]), none, none, []⟩,
 ⟨(some 18), .call 1 80 [(.t 17)], none, none, []⟩,
 ⟨(some 19), .call 1 81 [(.t 18)], none, none, []⟩,
 ⟨(some 4), .p (.move (.t 19)), none, none, []⟩,
 ⟨(some 5), .p (.move (.c (.int .i64 0))), none, none, []⟩])
 (.ret)))⟩
/-- almadraba/almadrabaref02.First -/
def f27 : AFn := ⟨16, [.tmp 4, .tmp 5],
 .seq (.region 0 [⟨(some 2), .box (.t 0), none, none, []⟩,
 ⟨(some 3), .box (.t 1), none, none, []⟩,
 ⟨(some 4), .p (.move (.c (.nils))), none, none, []⟩,
 ⟨(some 5), .p (.move (.c (.int .i64 0))), none, none, []⟩])
 (.seq (.seq (.region 0 [⟨(some 7), .load true 7 (.t 2), none, none, []⟩,
 ⟨(some 8), .load true 3 (.t 3), none, none, []⟩,
 ⟨(some 9), .call 1 82 [(.t 7), (.t 8)], none, none, []⟩,
 ⟨(some 6), .p (.move (.t 9)), none, none, []⟩])
 (.seq (.region 0 [⟨(some 10), .p (.move (.t 6)), none, none, []⟩,
 ⟨(some 11), .p (.bin .neq (.t 10) (.c (.int .i64 0))), none, none, []⟩])
 (.cond (.t 11) (.seq (.region 0 [⟨(some 12), .p (.move (.t 6)), none, none, []⟩,
 ⟨(some 4), .p (.move (.c (.nils))), none, none, []⟩,
 ⟨(some 5), .p (.move (.t 12)), none, none, []⟩])
 (.ret))
 (.skip))))
 (.seq (.region 0 [⟨(some 13), .load true 7 (.t 2), none, none, []⟩,
 ⟨(some 14), .load true 3 (.t 3), none, none, []⟩,
 ⟨(some 15), .call 1 83 [(.t 13), (.t 14), (.c (.nils))], none, none, []⟩,
 ⟨(some 4), .p (.move (.t 15)), none, none, []⟩,
 ⟨(some 5), .p (.move (.c (.int .i64 0))), none, none, []⟩])
 (.ret)))⟩
/-- almadraba/anchors.Drags -/
def f28 : AFn := ⟨21, [.tmp 4, .tmp 5],
 .seq (.region 0 [⟨(some 2), .box (.t 0), none, none, []⟩,
 ⟨(some 3), .box (.t 1), none, none, []⟩,
 ⟨(some 4), .p (.move (.c (.nils))), none, none, []⟩,
 ⟨(some 5), .p (.move (.c (.int .i64 0))), none, none, []⟩])
 (.seq (.seq (.region 0 [⟨(some 7), .load true 7 (.t 2), none, none, []⟩,
 ⟨(some 8), .load true 7 (.t 2), none, none, []⟩,
 ⟨(some 9), .load true 3 (.t 3), none, none, []⟩,
 ⟨(some 10), .call 1 79 [(.t 8), (.t 9)], none, none, []⟩,
 ⟨(some 11), .call 1 68 [(.t 7), (.t 10)], none, none, []⟩,
 ⟨(some 6), .p (.move (.t 11)), none, none, []⟩])
 (.seq (.region 0 [⟨(some 12), .p (.move (.t 6)), none, none, []⟩,
 ⟨(some 13), .p (.bin .neq (.t 12) (.c (.int .i64 0))), none, none, []⟩])
 (.cond (.t 13) (.seq (.region 0 [⟨(some 14), .p (.move (.t 6)), none, none, []⟩,
 ⟨(some 4), .p (.move (.c (.nils))), none, none, []⟩,
 ⟨(some 5), .p (.move (.t 14)), none, none, []⟩])
 (.ret))
 (.skip))))
 (.seq (.region 0 [⟨(some 15), .load true 7 (.t 2), none, none, []⟩,
 ⟨(some 16), .load true 3 (.t 3), none, none, []⟩,
 ⟨(some 17), .p (.build [.int .i64 0, .int .i64 0, .int .i64 0, .int .i64 0, .nils, .nils, .nils, .int .i64 0, .int .i64 0, .nils] [(0, 7, (.t 15)), (7, 3, (.t 16))]), none, none, []⟩,
 ⟨(some 18), .p (.build [.bool false, .bool false, .bool false, .bool false, .bool false, .bool false] []), none, none, []⟩,
 ⟨(some 19), .call 1 84 [(.t 17), (.t 18)], none, none, []⟩,
 ⟨(some 20), .call 1 81 [(.t 19)], none, none, []⟩,
 ⟨(some 4), .p (.move (.t 20)), none, none, []⟩,
 ⟨(some 5), .p (.move (.c (.int .i64 0))), none, none, []⟩])
 (.ret)))⟩
/-- almadraba/almadrabaref02.Drags -/
def f29 : AFn := ⟨16, [.tmp 4, .tmp 5],
 .seq (.region 0 [⟨(some 2), .box (.t 0), none, none, []⟩,
 ⟨(some 3), .box (.t 1), none, none, []⟩,
 ⟨(some 4), .p (.move (.c (.nils))), none, none, []⟩,
 ⟨(some 5), .p (.move (.c (.int .i64 0))), none, none, []⟩])
 (.seq (.seq (.region 0 [⟨(some 7), .load true 7 (.t 2), none, none, []⟩,
 ⟨(some 8), .load true 3 (.t 3), none, none, []⟩,
 ⟨(some 9), .call 1 82 [(.t 7), (.t 8)], none, none, []⟩,
 ⟨(some 6), .p (.move (.t 9)), none, none, []⟩])
 (.seq (.region 0 [⟨(some 10), .p (.move (.t 6)), none, none, []⟩,
 ⟨(some 11), .p (.bin .neq (.t 10) (.c (.int .i64 0))), none, none, []⟩])
 (.cond (.t 11) (.seq (.region 0 [⟨(some 12), .p (.move (.t 6)), none, none, []⟩,
 ⟨(some 4), .p (.move (.c (.nils))), none, none, []⟩,
 ⟨(some 5), .p (.move (.t 12)), none, none, []⟩])
 (.ret))
 (.skip))))
 (.seq (.region 0 [⟨(some 13), .load true 7 (.t 2), none, none, []⟩,
 ⟨(some 14), .load true 3 (.t 3), none, none, []⟩,
 ⟨(some 15), .call 1 85 [(.t 13), (.t 14), (.c (.nils))], none, none, []⟩,
 ⟨(some 4), .p (.move (.t 15)), none, none, []⟩,
 ⟨(some 5), .p (.move (.c (.int .i64 0))), none, none, []⟩])
 (.ret)))⟩
/-- almadraba/almadrabaref01.SameInts -/
def f30 : AFn := ⟨26, [.tmp 4],
 .seq (.region 0 [⟨(some 4), .p (.move (.c (.bool false))), none, none, []⟩])
 (.seq (.seq (.region 0 [⟨(some 6), .p (.move (.t 0)), none, none, []⟩,
 ⟨(some 7), .p (.lenS (.t 6)), none, none, []⟩,
 ⟨(some 8), .p (.move (.t 1)), none, none, []⟩,
 ⟨(some 9), .p (.lenS (.t 8)), none, none, []⟩,
 ⟨(some 10), .p (.bin .neq (.t 7) (.t 9)), none, none, []⟩])
 (.cond (.t 10) (.seq (.region 0 [⟨(some 4), .p (.move (.c (.bool false))), none, none, []⟩])
 (.ret))
 (.skip)))
 (.seq (.seq (.region 0 [⟨(some 5), .p (.move (.c (.int .i64 0))), none, none, []⟩])
 (.block 0 (.loop (.seq (.seq (.region 0 [⟨(some 11), .p (.move (.t 5)), none, none, []⟩,
 ⟨(some 12), .p (.move (.t 0)), none, none, []⟩,
 ⟨(some 13), .p (.lenS (.t 12)), none, none, []⟩,
 ⟨(some 14), .p (.bin .lss (.t 11) (.t 13)), none, none, []⟩])
 (.cond (.t 14) (.skip)
 (.exit 0)))
 (.seq (.block 1 (.seq (.region 0 [⟨(some 17), .p (.move (.t 0)), none, none, []⟩,
 ⟨(some 18), .p (.move (.t 5)), none, none, []⟩,
 ⟨(some 19), .p (.idxSl 1 (.t 17) (.t 18)), none, none, []⟩,
 ⟨(some 20), .load false 1 (.t 19), none, none, []⟩,
 ⟨(some 21), .p (.move (.t 1)), none, none, []⟩,
 ⟨(some 22), .p (.move (.t 5)), none, none, []⟩,
 ⟨(some 23), .p (.idxSl 1 (.t 21) (.t 22)), none, none, []⟩,
 ⟨(some 24), .load false 1 (.t 23), none, none, []⟩,
 ⟨(some 25), .p (.bin .neq (.t 20) (.t 24)), none, none, []⟩])
 (.cond (.t 25) (.seq (.region 0 [⟨(some 4), .p (.move (.c (.bool false))), none, none, []⟩])
 (.ret))
 (.skip))))
 (.region 0 [⟨(some 15), .p (.move (.t 5)), none, none, []⟩,
 ⟨(some 16), .p (.bin .add (.t 15) (.c (.int .i64 1))), none, none, []⟩,
 ⟨(some 5), .p (.move (.t 16)), none, none, []⟩]))))))
 (.seq (.region 0 [⟨(some 4), .p (.move (.c (.bool true))), none, none, []⟩])
 (.ret))))⟩
/-- almadraba/anchors.Pulled -/
def f31 : AFn := ⟨28, [.tmp 6, .tmp 7],
 .seq (.region 0 [⟨(some 3), .box (.t 0), none, none, []⟩,
 ⟨(some 4), .box (.t 1), none, none, []⟩,
 ⟨(some 6), .p (.move (.c (.nils))), none, none, []⟩,
 ⟨(some 7), .p (.move (.c (.int .i64 0))), none, none, []⟩])
 (.seq (.seq (.region 0 [⟨(some 9), .load true 7 (.t 3), none, none, []⟩,
 ⟨(some 10), .load true 7 (.t 3), none, none, []⟩,
 ⟨(some 11), .load true 3 (.t 4), none, none, []⟩,
 ⟨(some 12), .call 1 79 [(.t 10), (.t 11)], none, none, []⟩,
 ⟨(some 13), .p (.move (.t 12)), none, none, []⟩,
 ⟨(some 14), .load true 7 (.t 3), (some (13, true)), none, []⟩,
 ⟨(some 15), .p (.move (.t 2)), (some (13, true)), none, []⟩,
 ⟨(some 16), .call 1 86 [(.t 14), (.t 15)], (some (13, true)), none, []⟩,
 ⟨(some 17), .p (.pick (.t 13) (.t 16) (.c (.bool false))), none, none, []⟩,
 ⟨(some 18), .call 1 68 [(.t 9), (.t 17)], none, none, []⟩,
 ⟨(some 8), .p (.move (.t 18)), none, none, []⟩])
 (.seq (.region 0 [⟨(some 19), .p (.move (.t 8)), none, none, []⟩,
 ⟨(some 20), .p (.bin .neq (.t 19) (.c (.int .i64 0))), none, none, []⟩])
 (.cond (.t 20) (.seq (.region 0 [⟨(some 21), .p (.move (.t 8)), none, none, []⟩,
 ⟨(some 6), .p (.move (.c (.nils))), none, none, []⟩,
 ⟨(some 7), .p (.move (.t 21)), none, none, []⟩])
 (.ret))
 (.skip))))
 (.seq (.region 0 [⟨(some 22), .load true 7 (.t 3), none, none, []⟩,
 ⟨(some 23), .load true 3 (.t 4), none, none, []⟩,
 ⟨(some 24), .p (.build [.int .i64 0, .int .i64 0, .int .i64 0, .int .i64 0, .nils, .nils, .nils, .int .i64 0, .int .i64 0, .nils] [(0, 7, (.t 22)), (7, 3, (.t 23))]), none, none, []⟩,
 ⟨(some 25), .p (.move (.t 2)), none, none, []⟩,
 ⟨(some 26), .call 1 87 [(.t 24), (.t 25)], none, none, []⟩,
 ⟨(some 27), .call 1 81 [(.t 26)], none, none, []⟩,
 ⟨(some 6), .p (.move (.t 27)), none, none, []⟩,
 ⟨(some 7), .p (.move (.c (.int .i64 0))), none, none, []⟩])
 (.ret)))⟩
/-- almadraba/almadrabaref02.Pulled -/
def f32 : AFn := ⟨24, [.tmp 6, .tmp 7],
 .seq (.region 0 [⟨(some 3), .box (.t 0), none, none, []⟩,
 ⟨(some 4), .box (.t 1), none, none, []⟩,
 ⟨(some 6), .p (.move (.c (.nils))), none, none, []⟩,
 ⟨(some 7), .p (.move (.c (.int .i64 0))), none, none, []⟩])
 (.seq (.seq (.region 0 [⟨(some 9), .load true 7 (.t 3), none, none, []⟩,
 ⟨(some 10), .load true 3 (.t 4), none, none, []⟩,
 ⟨(some 11), .call 1 82 [(.t 9), (.t 10)], none, none, []⟩,
 ⟨(some 8), .p (.move (.t 11)), none, none, []⟩])
 (.seq (.region 0 [⟨(some 12), .p (.move (.t 8)), none, none, []⟩,
 ⟨(some 13), .p (.bin .neq (.t 12) (.c (.int .i64 0))), none, none, []⟩])
 (.cond (.t 13) (.seq (.region 0 [⟨(some 14), .p (.move (.t 8)), none, none, []⟩,
 ⟨(some 6), .p (.move (.c (.nils))), none, none, []⟩,
 ⟨(some 7), .p (.move (.t 14)), none, none, []⟩])
 (.ret))
 (.skip))))
 (.seq (.seq (.region 0 [⟨(some 15), .load true 7 (.t 3), none, none, []⟩,
 ⟨(some 16), .p (.move (.t 2)), none, none, []⟩,
 ⟨(some 17), .call 1 57 [(.t 15), (.t 16)], none, none, []⟩,
 ⟨(some 18), .p (.un .not (.t 17)), none, none, []⟩])
 (.cond (.t 18) (.seq (.region 0 [⟨(some 6), .p (.move (.c (.nils))), none, none, []⟩,
 ⟨(some 7), .p (.move (.c (.int .i64 1))), none, none, []⟩])
 (.ret))
 (.skip)))
 (.seq (.region 0 [⟨(some 19), .load true 7 (.t 3), none, none, []⟩,
 ⟨(some 20), .load true 3 (.t 4), none, none, []⟩,
 ⟨(some 21), .p (.move (.t 2)), none, none, []⟩,
 ⟨(some 22), .litS 1 1 [.int .i64 0] [(0, (.t 21))], none, none, []⟩,
 ⟨(some 23), .call 1 85 [(.t 19), (.t 20), (.t 22)], none, none, []⟩,
 ⟨(some 6), .p (.move (.t 23)), none, none, []⟩,
 ⟨(some 7), .p (.move (.c (.int .i64 0))), none, none, []⟩])
 (.ret))))⟩
/-- almadraba/anchors.Key -/
def f33 : AFn := ⟨42, [.tmp 4, .tmp 5],
 .seq (.region 0 [⟨(some 2), .box (.t 0), none, none, []⟩,
 ⟨(some 3), .box (.t 1), none, none, []⟩,
 ⟨(some 4), .p (.move (.c (.int .i64 0))), none, none, []⟩,
 ⟨(some 5), .p (.move (.c (.int .i64 0))), none, none, []⟩])
 (.seq (.seq (.region 0 [⟨(some 11), .load true 7 (.t 2), none, none, []⟩,
 ⟨(some 12), .load true 7 (.t 2), none, none, []⟩,
 ⟨(some 13), .load true 3 (.t 3), none, none, []⟩,
 ⟨(some 14), .call 1 79 [(.t 12), (.t 13)], none, none, []⟩,
 ⟨(some 15), .call 1 68 [(.t 11), (.t 14)], none, none, []⟩,
 ⟨(some 6), .p (.move (.t 15)), none, none, []⟩])
 (.seq (.region 0 [⟨(some 16), .p (.move (.t 6)), none, none, []⟩,
 ⟨(some 17), .p (.bin .neq (.t 16) (.c (.int .i64 0))), none, none, []⟩])
 (.cond (.t 17) (.seq (.region 0 [⟨(some 18), .p (.move (.t 6)), none, none, []⟩,
 ⟨(some 4), .p (.move (.c (.int .i64 0))), none, none, []⟩,
 ⟨(some 5), .p (.move (.t 18)), none, none, []⟩])
 (.ret))
 (.skip))))
 (.seq (.seq (.region 0 [⟨(some 19), .p (.fieldAddr 5 (.t 2)), none, none, []⟩,
 ⟨(some 20), .load false 1 (.t 19), none, none, []⟩,
 ⟨(some 21), .p (.lenS (.t 20)), none, none, []⟩,
 ⟨(some 22), .p (.bin .eql (.t 21) (.c (.int .i64 0))), none, none, []⟩])
 (.cond (.t 22) (.seq (.region 0 [⟨(some 4), .p (.move (.c (.int .i64 0))), none, none, []⟩,
 ⟨(some 5), .p (.move (.c (.int .i64 3))), none, none, []⟩])
 (.ret))
 (.skip)))
 (.seq (.region 0 [⟨(some 7), .p (.move (.c (.int .i64 0))), none, none, []⟩,
 ⟨(some 8), .p (.move (.c (.int .i64 0))), none, none, []⟩])
 (.seq (.seq (.region 0 [⟨(some 23), .p (.fieldAddr 5 (.t 2)), none, none, []⟩,
 ⟨(some 24), .load false 1 (.t 23), none, none, []⟩,
 ⟨(some 25), .p (.lenS (.t 24)), none, none, []⟩,
 ⟨(some 26), .p (.move (.c (.int .i64 0))), none, none, []⟩])
 (.block 0 (.loop (.seq (.region 0 [⟨(some 27), .p (.bin .lss (.t 26) (.t 25)), none, none, []⟩])
 (.seq (.cond (.t 27) (.skip)
 (.exit 0))
 (.seq (.block 1 (.seq (.region 0 [⟨(some 28), .p (.move (.t 26)), none, none, []⟩,
 ⟨(some 9), .p (.move (.t 28)), none, none, []⟩])
 (.seq (.region 0 [⟨(some 29), .load true 7 (.t 2), none, none, []⟩,
 ⟨(some 30), .load true 3 (.t 3), none, none, []⟩,
 ⟨(some 31), .p (.build [.int .i64 0, .int .i64 0, .int .i64 0, .int .i64 0, .nils, .nils, .nils, .int .i64 0, .int .i64 0, .nils] [(0, 7, (.t 29)), (7, 3, (.t 30))]), none, none, []⟩,
 ⟨(some 32), .p (.move (.t 9)), none, none, []⟩,
 ⟨(some 33), .call 1 87 [(.t 31), (.t 32)], none, none, []⟩,
 ⟨(some 34), .call 1 88 [(.t 33)], none, none, []⟩,
 ⟨(some 10), .p (.move (.t 34)), none, none, []⟩])
 (.seq (.region 0 [⟨(some 35), .p (.move (.t 10)), none, none, []⟩,
 ⟨(some 36), .p (.move (.t 8)), none, none, []⟩,
 ⟨(some 37), .p (.bin .gtr (.t 35) (.t 36)), none, none, []⟩])
 (.cond (.t 37) (.region 0 [⟨(some 38), .p (.move (.t 9)), none, none, []⟩,
 ⟨(some 39), .p (.move (.t 10)), none, none, []⟩,
 ⟨(some 7), .p (.move (.t 38)), none, none, []⟩,
 ⟨(some 8), .p (.move (.t 39)), none, none, []⟩])
 (.skip))))))
 (.region 0 [⟨(some 40), .p (.bin .add (.t 26) (.c (.int .i64 1))), none, none, []⟩,
 ⟨(some 26), .p (.move (.t 40)), none, none, []⟩])))))))
 (.seq (.region 0 [⟨(some 41), .p (.move (.t 7)), none, none, []⟩,
 ⟨(some 4), .p (.move (.t 41)), none, none, []⟩,
 ⟨(some 5), .p (.move (.c (.int .i64 0))), none, none, []⟩])
 (.ret))))))⟩
/-- almadraba/almadrabaref02.Key -/
def f34 : AFn := ⟨41, [.tmp 4, .tmp 5],
 .seq (.region 0 [⟨(some 2), .box (.t 0), none, none, []⟩,
 ⟨(some 3), .box (.t 1), none, none, []⟩,
 ⟨(some 4), .p (.move (.c (.int .i64 0))), none, none, []⟩,
 ⟨(some 5), .p (.move (.c (.int .i64 0))), none, none, []⟩])
 (.seq (.seq (.region 0 [⟨(some 9), .load true 7 (.t 2), none, none, []⟩,
 ⟨(some 10), .load true 3 (.t 3), none, none, []⟩,
 ⟨(some 11), .call 1 82 [(.t 9), (.t 10)], none, none, []⟩,
 ⟨(some 6), .p (.move (.t 11)), none, none, []⟩])
 (.seq (.region 0 [⟨(some 12), .p (.move (.t 6)), none, none, []⟩,
 ⟨(some 13), .p (.bin .neq (.t 12) (.c (.int .i64 0))), none, none, []⟩])
 (.cond (.t 13) (.seq (.region 0 [⟨(some 14), .p (.move (.t 6)), none, none, []⟩,
 ⟨(some 4), .p (.move (.c (.int .i64 0))), none, none, []⟩,
 ⟨(some 5), .p (.move (.t 14)), none, none, []⟩])
 (.ret))
 (.skip))))
 (.seq (.seq (.region 0 [⟨(some 15), .p (.fieldAddr 5 (.t 2)), none, none, []⟩,
 ⟨(some 16), .load false 1 (.t 15), none, none, []⟩,
 ⟨(some 17), .p (.lenS (.t 16)), none, none, []⟩,
 ⟨(some 18), .p (.bin .eql (.t 17) (.c (.int .i64 0))), none, none, []⟩])
 (.cond (.t 18) (.seq (.region 0 [⟨(some 4), .p (.move (.c (.int .i64 0))), none, none, []⟩,
 ⟨(some 5), .p (.move (.c (.int .i64 3))), none, none, []⟩])
 (.ret))
 (.skip)))
 (.seq (.region 0 [⟨(some 7), .p (.move (.c (.int .i64 0))), none, none, []⟩])
 (.seq (.seq (.region 0 [⟨(some 8), .p (.move (.c (.int .i64 0))), none, none, []⟩])
 (.block 0 (.loop (.seq (.seq (.region 0 [⟨(some 19), .p (.move (.t 8)), none, none, []⟩,
 ⟨(some 20), .p (.fieldAddr 5 (.t 2)), none, none, []⟩,
 ⟨(some 21), .load false 1 (.t 20), none, none, []⟩,
 ⟨(some 22), .p (.lenS (.t 21)), none, none, []⟩,
 ⟨(some 23), .p (.bin .lss (.t 19) (.t 22)), none, none, []⟩])
 (.cond (.t 23) (.skip)
 (.exit 0)))
 (.seq (.block 1 (.seq (.region 0 [⟨(some 26), .load true 7 (.t 2), none, none, []⟩,
 ⟨(some 27), .load true 3 (.t 3), none, none, []⟩,
 ⟨(some 28), .p (.move (.t 8)), none, none, []⟩,
 ⟨(some 29), .litS 1 1 [.int .i64 0] [(0, (.t 28))], none, none, []⟩,
 ⟨(some 30), .call 1 85 [(.t 26), (.t 27), (.t 29)], none, none, []⟩,
 ⟨(some 31), .p (.lenS (.t 30)), none, none, []⟩,
 ⟨(some 32), .load true 7 (.t 2), none, none, []⟩,
 ⟨(some 33), .load true 3 (.t 3), none, none, []⟩,
 ⟨(some 34), .p (.move (.t 7)), none, none, []⟩,
 ⟨(some 35), .litS 1 1 [.int .i64 0] [(0, (.t 34))], none, none, []⟩,
 ⟨(some 36), .call 1 85 [(.t 32), (.t 33), (.t 35)], none, none, []⟩,
 ⟨(some 37), .p (.lenS (.t 36)), none, none, []⟩,
 ⟨(some 38), .p (.bin .gtr (.t 31) (.t 37)), none, none, []⟩])
 (.cond (.t 38) (.region 0 [⟨(some 39), .p (.move (.t 8)), none, none, []⟩,
 ⟨(some 7), .p (.move (.t 39)), none, none, []⟩])
 (.skip))))
 (.region 0 [⟨(some 24), .p (.move (.t 8)), none, none, []⟩,
 ⟨(some 25), .p (.bin .add (.t 24) (.c (.int .i64 1))), none, none, []⟩,
 ⟨(some 8), .p (.move (.t 25)), none, none, []⟩]))))))
 (.seq (.region 0 [⟨(some 40), .p (.move (.t 7)), none, none, []⟩,
 ⟨(some 4), .p (.move (.t 40)), none, none, []⟩,
 ⟨(some 5), .p (.move (.c (.int .i64 0))), none, none, []⟩])
 (.ret))))))⟩
/-- almadraba/almadrabalaw02.SameTruth -/
def f35 : AFn := ⟨24, [.tmp 4],
 .seq (.region 0 [⟨(some 2), .box (.t 0), none, none, []⟩,
 ⟨(some 3), .box (.t 1), none, none, []⟩,
 ⟨(some 4), .p (.move (.c (.bool false))), none, none, []⟩])
 (.seq (.region 0 [⟨(some 5), .p (.fieldAddr 0 (.t 2)), none, none, []⟩,
 ⟨(some 6), .load false 1 (.t 5), none, none, []⟩,
 ⟨(some 7), .p (.fieldAddr 0 (.t 3)), none, none, []⟩,
 ⟨(some 8), .load false 1 (.t 7), none, none, []⟩,
 ⟨(some 9), .p (.bin .eql (.t 6) (.t 8)), none, none, []⟩,
 ⟨(some 10), .p (.move (.t 9)), none, none, []⟩,
 ⟨(some 11), .p (.fieldAddr 1 (.t 2)), (some (10, true)), none, []⟩,
 ⟨(some 12), .load false 1 (.t 11), (some (10, true)), none, []⟩,
 ⟨(some 13), .p (.fieldAddr 1 (.t 3)), (some (10, true)), none, []⟩,
 ⟨(some 14), .load false 1 (.t 13), (some (10, true)), none, []⟩,
 ⟨(some 15), .p (.bin .eql (.t 12) (.t 14)), (some (10, true)), none, []⟩,
 ⟨(some 16), .p (.pick (.t 10) (.t 15) (.c (.bool false))), none, none, []⟩,
 ⟨(some 17), .p (.move (.t 16)), none, none, []⟩,
 ⟨(some 18), .p (.fieldAddr 2 (.t 2)), (some (17, true)), none, []⟩,
 ⟨(some 19), .load false 1 (.t 18), (some (17, true)), none, []⟩,
 ⟨(some 20), .p (.fieldAddr 2 (.t 3)), (some (17, true)), none, []⟩,
 ⟨(some 21), .load false 1 (.t 20), (some (17, true)), none, []⟩,
 ⟨(some 22), .call 1 30 [(.t 19), (.t 21)], (some (17, true)), none, []⟩,
 ⟨(some 23), .p (.pick (.t 17) (.t 22) (.c (.bool false))), none, none, []⟩,
 ⟨(some 4), .p (.move (.t 23)), none, none, []⟩])
 (.ret))⟩
/-- almadraba/almadrabalaw02.Far -/
def f36 : AFn := ⟨57, [.tmp 2],
 .seq (.region 0 [⟨(some 1), .box (.t 0), none, none, []⟩,
 ⟨(some 2), .p (.move (.c (.bool false))), none, none, []⟩])
 (.seq (.seq (.region 0 [⟨(some 5), .load true 7 (.t 1), none, none, []⟩,
 ⟨(some 6), .p (.build [.int .i64 0, .int .i64 0, .nils] []), none, none, []⟩,
 ⟨(some 7), .call 1 15 [(.t 5), (.t 6)], none, none, []⟩])
 (.cond (.t 7) (.seq (.region 0 [⟨(some 2), .p (.move (.c (.bool true))), none, none, []⟩])
 (.ret))
 (.skip)))
 (.seq (.seq (.region 0 [⟨(some 8), .load true 7 (.t 1), none, none, []⟩,
 ⟨(some 9), .call 1 19 [(.t 8)], none, none, []⟩,
 ⟨(some 10), .p (.bin .neq (.t 9) (.c (.int .i64 0))), none, none, []⟩])
 (.cond (.t 10) (.seq (.region 0 [⟨(some 2), .p (.move (.c (.bool false))), none, none, []⟩])
 (.ret))
 (.skip)))
 (.seq (.region 0 [⟨(some 11), .p (.fieldAddr 2 (.t 1)), none, none, []⟩,
 ⟨(some 12), .p (.fieldAddr 1 (.t 11)), none, none, []⟩,
 ⟨(some 13), .load false 1 (.t 12), none, none, []⟩,
 ⟨(some 14), .p (.fieldAddr 2 (.t 1)), none, none, []⟩,
 ⟨(some 15), .p (.fieldAddr 0 (.t 14)), none, none, []⟩,
 ⟨(some 16), .load false 1 (.t 15), none, none, []⟩,
 ⟨(some 17), .p (.bin .sub (.t 13) (.t 16)), none, none, []⟩,
 ⟨(some 18), .p (.bin .add (.t 17) (.c (.int .i64 1))), none, none, []⟩,
 ⟨(some 3), .p (.move (.t 18)), none, none, []⟩])
 (.seq (.seq (.region 0 [⟨(some 4), .p (.move (.c (.int .i64 0))), none, none, []⟩])
 (.block 0 (.loop (.seq (.seq (.region 0 [⟨(some 19), .p (.move (.t 4)), none, none, []⟩,
 ⟨(some 20), .p (.fieldAddr 4 (.t 1)), none, none, []⟩,
 ⟨(some 21), .load false 1 (.t 20), none, none, []⟩,
 ⟨(some 22), .p (.lenS (.t 21)), none, none, []⟩,
 ⟨(some 23), .p (.bin .lss (.t 19) (.t 22)), none, none, []⟩])
 (.cond (.t 23) (.skip)
 (.exit 0)))
 (.seq (.block 1 (.region 0 [⟨(some 26), .p (.move (.t 3)), none, none, []⟩,
 ⟨(some 27), .p (.fieldAddr 4 (.t 1)), none, none, []⟩,
 ⟨(some 28), .load false 1 (.t 27), none, none, []⟩,
 ⟨(some 29), .p (.move (.t 4)), none, none, []⟩,
 ⟨(some 30), .p (.idxSl 2 (.t 28) (.t 29)), none, none, []⟩,
 ⟨(some 31), .p (.fieldAddr 1 (.t 30)), none, none, []⟩,
 ⟨(some 32), .load false 1 (.t 31), none, none, []⟩,
 ⟨(some 33), .p (.fieldAddr 4 (.t 1)), none, none, []⟩,
 ⟨(some 34), .load false 1 (.t 33), none, none, []⟩,
 ⟨(some 35), .p (.move (.t 4)), none, none, []⟩,
 ⟨(some 36), .p (.idxSl 2 (.t 34) (.t 35)), none, none, []⟩,
 ⟨(some 37), .p (.fieldAddr 0 (.t 36)), none, none, []⟩,
 ⟨(some 38), .load false 1 (.t 37), none, none, []⟩,
 ⟨(some 39), .p (.bin .sub (.t 32) (.t 38)), none, none, []⟩,
 ⟨(some 40), .p (.bin .add (.t 39) (.c (.int .i64 1))), none, none, []⟩,
 ⟨(some 41), .p (.bin .mul (.t 26) (.t 40)), none, none, []⟩,
 ⟨(some 3), .p (.move (.t 41)), none, none, []⟩]))
 (.region 0 [⟨(some 24), .p (.move (.t 4)), none, none, []⟩,
 ⟨(some 25), .p (.bin .add (.t 24) (.c (.int .i64 1))), none, none, []⟩,
 ⟨(some 4), .p (.move (.t 25)), none, none, []⟩]))))))
 (.seq (.region 0 [⟨(some 42), .p (.move (.t 3)), none, none, []⟩,
 ⟨(some 43), .p (.bin .gtr (.t 42) (.c (.int .i64 24))), none, none, []⟩,
 ⟨(some 44), .p (.move (.t 43)), none, none, []⟩,
 ⟨(some 45), .p (.move (.t 3)), (some (44, false)), none, []⟩,
 ⟨(some 46), .p (.fieldAddr 0 (.t 1)), (some (44, false)), none, []⟩,
 ⟨(some 47), .p (.fieldAddr 1 (.t 46)), (some (44, false)), none, []⟩,
 ⟨(some 48), .load false 1 (.t 47), (some (44, false)), none, []⟩,
 ⟨(some 49), .p (.fieldAddr 0 (.t 1)), (some (44, false)), none, []⟩,
 ⟨(some 50), .p (.fieldAddr 0 (.t 49)), (some (44, false)), none, []⟩,
 ⟨(some 51), .load false 1 (.t 50), (some (44, false)), none, []⟩,
 ⟨(some 52), .p (.bin .sub (.t 48) (.t 51)), (some (44, false)), none, []⟩,
 ⟨(some 53), .p (.bin .add (.t 52) (.c (.int .i64 1))), (some (44, false)), none, []⟩,
 ⟨(some 54), .p (.bin .mul (.t 45) (.t 53)), (some (44, false)), none, []⟩,
 ⟨(some 55), .p (.bin .gtr (.t 54) (.c (.int .i64 100))), (some (44, false)), none, []⟩,
 ⟨(some 56), .p (.pick (.t 44) (.c (.bool true)) (.t 55)), none, none, []⟩,
 ⟨(some 2), .p (.move (.t 56)), none, none, []⟩])
 (.ret))))))⟩
/-- almadraba/anchors.Drag -/
def f37 : AFn := ⟨32, [.tmp 4, .tmp 5],
 .seq (.region 0 [⟨(some 2), .box (.t 0), none, none, []⟩,
 ⟨(some 4), .p (.move (.c (.int .i64 0))), none, none, []⟩,
 ⟨(some 5), .p (.move (.c (.int .i64 0))), none, none, []⟩])
 (.seq (.seq (.region 0 [⟨(some 9), .load true 7 (.t 2), none, none, []⟩,
 ⟨(some 10), .load true 7 (.t 2), none, none, []⟩,
 ⟨(some 11), .p (.move (.t 1)), none, none, []⟩,
 ⟨(some 12), .call 1 86 [(.t 10), (.t 11)], none, none, []⟩,
 ⟨(some 13), .call 1 68 [(.t 9), (.t 12)], none, none, []⟩,
 ⟨(some 6), .p (.move (.t 13)), none, none, []⟩])
 (.seq (.region 0 [⟨(some 14), .p (.move (.t 6)), none, none, []⟩,
 ⟨(some 15), .p (.bin .neq (.t 14) (.c (.int .i64 0))), none, none, []⟩])
 (.cond (.t 15) (.seq (.region 0 [⟨(some 16), .p (.move (.t 6)), none, none, []⟩,
 ⟨(some 4), .p (.move (.c (.int .i64 0))), none, none, []⟩,
 ⟨(some 5), .p (.move (.t 16)), none, none, []⟩])
 (.ret))
 (.skip))))
 (.seq (.region 2 [⟨(some 17), .load true 7 (.t 2), none, none, [0, 1]⟩,
 ⟨(some 18), .call 1 89 [(.t 17)], none, none, [0, 1]⟩,
 ⟨(some 19), .p (.build [.bool false, .bool false, .bool false, .bool false, .bool false, .bool false] []), none, none, []⟩,
 ⟨(some 20), .call 1 84 [(.t 18), (.t 19)], none, none, [0, 1]⟩,
 ⟨(some 21), .load true 7 (.t 2), none, none, [0, 1]⟩,
 ⟨(some 22), .call 1 90 [(.t 21)], none, none, [0, 1]⟩,
 ⟨(some 23), .p (.build [.bool false, .bool false, .bool false, .bool false, .bool false, .bool false] []), none, none, []⟩,
 ⟨(some 24), .call 1 84 [(.t 22), (.t 23)], none, none, [0, 1]⟩,
 ⟨(some 7), .alloc [.bool false, .bool false, .bool false, .bool false, .bool false, .bool false], none, (some 0), []⟩,
 ⟨(some 8), .alloc [.bool false, .bool false, .bool false, .bool false, .bool false, .bool false], none, (some 1), []⟩,
 ⟨none, .store 6 (.t 7) (.t 20), none, (some 0), []⟩,
 ⟨none, .store 6 (.t 8) (.t 24), none, (some 1), []⟩])
 (.seq (.region 0 [⟨(some 25), .p (.move (.t 1)), none, none, []⟩,
 ⟨(some 26), .p (.idxArr 6 1 (.t 7) (.t 25)), none, none, []⟩,
 ⟨(some 27), .load false 1 (.t 26), none, none, []⟩,
 ⟨(some 28), .p (.move (.t 1)), none, none, []⟩,
 ⟨(some 29), .p (.idxArr 6 1 (.t 8) (.t 28)), none, none, []⟩,
 ⟨(some 30), .load false 1 (.t 29), none, none, []⟩,
 ⟨(some 31), .call 1 76 [(.t 27), (.t 30)], none, none, []⟩,
 ⟨(some 4), .p (.move (.t 31)), none, none, []⟩,
 ⟨(some 5), .p (.move (.c (.int .i64 0))), none, none, []⟩])
 (.ret))))⟩
/-- almadraba/almadrabaref02.Drag -/
def f38 : AFn := ⟨40, [.tmp 4, .tmp 5],
 .seq (.region 0 [⟨(some 2), .box (.t 0), none, none, []⟩,
 ⟨(some 4), .p (.move (.c (.int .i64 0))), none, none, []⟩,
 ⟨(some 5), .p (.move (.c (.int .i64 0))), none, none, []⟩])
 (.seq (.seq (.region 0 [⟨(some 10), .load true 7 (.t 2), none, none, []⟩,
 ⟨(some 11), .load true 7 (.t 2), none, none, []⟩,
 ⟨(some 12), .p (.move (.t 1)), none, none, []⟩,
 ⟨(some 13), .call 1 57 [(.t 11), (.t 12)], none, none, []⟩,
 ⟨(some 14), .call 1 72 [(.t 10), (.t 13)], none, none, []⟩,
 ⟨(some 6), .p (.move (.t 14)), none, none, []⟩])
 (.seq (.region 0 [⟨(some 15), .p (.move (.t 6)), none, none, []⟩,
 ⟨(some 16), .p (.bin .neq (.t 15) (.c (.int .i64 0))), none, none, []⟩])
 (.cond (.t 16) (.seq (.region 0 [⟨(some 17), .p (.move (.t 6)), none, none, []⟩,
 ⟨(some 4), .p (.move (.c (.int .i64 0))), none, none, []⟩,
 ⟨(some 5), .p (.move (.t 17)), none, none, []⟩])
 (.ret))
 (.skip))))
 (.seq (.region 0 [⟨(some 18), .load true 7 (.t 2), none, none, []⟩,
 ⟨(some 19), .call 1 91 [(.t 18)], none, none, []⟩,
 ⟨(some 7), .p (.move (.t 19)), none, none, []⟩])
 (.seq (.region 0 [⟨(some 8), .p (.move (.c (.int .i64 0))), none, none, []⟩])
 (.seq (.seq (.region 0 [⟨(some 9), .p (.move (.c (.int .i64 0))), none, none, []⟩])
 (.block 0 (.loop (.seq (.seq (.region 0 [⟨(some 20), .p (.move (.t 9)), none, none, []⟩,
 ⟨(some 21), .p (.move (.t 7)), none, none, []⟩,
 ⟨(some 22), .p (.lenS (.t 21)), none, none, []⟩,
 ⟨(some 23), .p (.bin .lss (.t 20) (.t 22)), none, none, []⟩])
 (.cond (.t 23) (.skip)
 (.exit 0)))
 (.seq (.block 1 (.seq (.region 0 [⟨(some 26), .load true 7 (.t 2), none, none, []⟩,
 ⟨(some 27), .p (.move (.t 7)), none, none, []⟩,
 ⟨(some 28), .p (.move (.t 9)), none, none, []⟩,
 ⟨(some 29), .p (.idxSl 3 (.t 27) (.t 28)), none, none, []⟩,
 ⟨(some 30), .load true 3 (.t 29), none, none, []⟩,
 ⟨(some 31), .call 1 85 [(.t 26), (.t 30), (.c (.nils))], none, none, []⟩,
 ⟨(some 32), .p (.move (.t 1)), none, none, []⟩,
 ⟨(some 33), .call 1 56 [(.t 31), (.t 32)], none, none, []⟩])
 (.cond (.t 33) (.region 0 [⟨(some 34), .p (.move (.t 8)), none, none, []⟩,
 ⟨(some 35), .p (.bin .add (.t 34) (.c (.int .i64 1))), none, none, []⟩,
 ⟨(some 8), .p (.move (.t 35)), none, none, []⟩])
 (.skip))))
 (.region 0 [⟨(some 24), .p (.move (.t 9)), none, none, []⟩,
 ⟨(some 25), .p (.bin .add (.t 24) (.c (.int .i64 1))), none, none, []⟩,
 ⟨(some 9), .p (.move (.t 25)), none, none, []⟩]))))))
 (.seq (.region 0 [⟨(some 36), .p (.move (.t 8)), none, none, []⟩,
 ⟨(some 37), .p (.move (.t 7)), none, none, []⟩,
 ⟨(some 38), .p (.lenS (.t 37)), none, none, []⟩,
 ⟨(some 39), .call 1 78 [(.t 36), (.t 38)], none, none, []⟩,
 ⟨(some 4), .p (.move (.t 39)), none, none, []⟩,
 ⟨(some 5), .p (.move (.c (.int .i64 0))), none, none, []⟩])
 (.ret))))))⟩
/-- almadraba/anchors.Safe -/
def f39 : AFn := ⟨17, [.tmp 2, .tmp 3],
 .seq (.region 0 [⟨(some 1), .box (.t 0), none, none, []⟩,
 ⟨(some 2), .p (.move (.c (.int .i64 0))), none, none, []⟩,
 ⟨(some 3), .p (.move (.c (.int .i64 0))), none, none, []⟩])
 (.seq (.seq (.region 0 [⟨(some 5), .load true 7 (.t 1), none, none, []⟩,
 ⟨(some 6), .call 1 18 [(.t 5)], none, none, []⟩,
 ⟨(some 4), .p (.move (.t 6)), none, none, []⟩])
 (.seq (.region 0 [⟨(some 7), .p (.move (.t 4)), none, none, []⟩,
 ⟨(some 8), .p (.bin .neq (.t 7) (.c (.int .i64 0))), none, none, []⟩])
 (.cond (.t 8) (.seq (.region 0 [⟨(some 9), .p (.move (.t 4)), none, none, []⟩,
 ⟨(some 2), .p (.move (.c (.int .i64 0))), none, none, []⟩,
 ⟨(some 3), .p (.move (.t 9)), none, none, []⟩])
 (.ret))
 (.skip))))
 (.seq (.region 0 [⟨(some 10), .load true 7 (.t 1), none, none, []⟩,
 ⟨(some 11), .call 1 90 [(.t 10)], none, none, []⟩,
 ⟨(some 12), .call 1 92 [(.t 11)], none, none, []⟩,
 ⟨(some 13), .load true 7 (.t 1), none, none, []⟩,
 ⟨(some 14), .call 1 89 [(.t 13)], none, none, []⟩,
 ⟨(some 15), .call 1 92 [(.t 14)], none, none, []⟩,
 ⟨(some 16), .call 1 76 [(.t 12), (.t 15)], none, none, []⟩,
 ⟨(some 2), .p (.move (.t 16)), none, none, []⟩,
 ⟨(some 3), .p (.move (.c (.int .i64 0))), none, none, []⟩])
 (.ret)))⟩
/-- almadraba/almadrabaref02.Safe -/
def f40 : AFn := ⟨20, [.tmp 2, .tmp 3],
 .seq (.region 0 [⟨(some 1), .box (.t 0), none, none, []⟩,
 ⟨(some 2), .p (.move (.c (.int .i64 0))), none, none, []⟩,
 ⟨(some 3), .p (.move (.c (.int .i64 0))), none, none, []⟩])
 (.seq (.seq (.region 0 [⟨(some 7), .load true 7 (.t 1), none, none, []⟩,
 ⟨(some 8), .call 1 19 [(.t 7)], none, none, []⟩,
 ⟨(some 4), .p (.move (.t 8)), none, none, []⟩])
 (.seq (.region 0 [⟨(some 9), .p (.move (.t 4)), none, none, []⟩,
 ⟨(some 10), .p (.bin .neq (.t 9) (.c (.int .i64 0))), none, none, []⟩])
 (.cond (.t 10) (.seq (.region 0 [⟨(some 11), .p (.move (.t 4)), none, none, []⟩,
 ⟨(some 2), .p (.move (.c (.int .i64 0))), none, none, []⟩,
 ⟨(some 3), .p (.move (.t 11)), none, none, []⟩])
 (.ret))
 (.skip))))
 (.seq (.region 0 [⟨(some 13), .load true 7 (.t 1), none, none, []⟩,
 ⟨(some 14), .call 1 93 [(.t 13)], none, none, []⟩,
 ⟨(some 12), .p (.move (.t 14)), none, none, []⟩,
 ⟨(some 15), .p (.extract (.t 12) 0), none, none, []⟩,
 ⟨(some 16), .p (.extract (.t 12) 1), none, none, []⟩,
 ⟨(some 5), .p (.move (.t 15)), none, none, []⟩,
 ⟨(some 6), .p (.move (.t 16)), none, none, []⟩])
 (.seq (.region 0 [⟨(some 17), .p (.move (.t 5)), none, none, []⟩,
 ⟨(some 18), .p (.move (.t 6)), none, none, []⟩,
 ⟨(some 19), .call 1 78 [(.t 17), (.t 18)], none, none, []⟩,
 ⟨(some 2), .p (.move (.t 19)), none, none, []⟩,
 ⟨(some 3), .p (.move (.c (.int .i64 0))), none, none, []⟩])
 (.ret))))⟩
/-- almadraba/anchors.Spare -/
def f41 : AFn := ⟨27, [.cell true 2 4, .tmp 5],
 .seq (.region 0 [⟨(some 2), .box (.t 0), none, none, []⟩,
 ⟨(some 4), .alloc [.int .i64 0, .int .i64 0], none, none, []⟩,
 ⟨(some 5), .p (.move (.c (.int .i64 0))), none, none, []⟩])
 (.seq (.seq (.region 0 [⟨(some 7), .load true 7 (.t 2), none, none, []⟩,
 ⟨(some 8), .load true 7 (.t 2), none, none, []⟩,
 ⟨(some 9), .p (.move (.t 1)), none, none, []⟩,
 ⟨(some 10), .call 1 86 [(.t 8), (.t 9)], none, none, []⟩,
 ⟨(some 11), .call 1 68 [(.t 7), (.t 10)], none, none, []⟩,
 ⟨(some 6), .p (.move (.t 11)), none, none, []⟩])
 (.seq (.region 0 [⟨(some 12), .p (.move (.t 6)), none, none, []⟩,
 ⟨(some 13), .p (.bin .neq (.t 12) (.c (.int .i64 0))), none, none, []⟩])
 (.cond (.t 13) (.seq (.region 0 [⟨(some 14), .p (.build [.int .i64 0, .int .i64 0] []), none, none, []⟩,
 ⟨(some 15), .p (.move (.t 6)), none, none, []⟩,
 ⟨none, .store 2 (.t 4) (.t 14), none, none, []⟩,
 ⟨(some 5), .p (.move (.t 15)), none, none, []⟩])
 (.ret))
 (.skip))))
 (.seq (.region 0 [⟨(some 16), .load true 7 (.t 2), none, none, []⟩,
 ⟨(some 17), .call 1 90 [(.t 16)], none, none, []⟩,
 ⟨(some 18), .p (.move (.t 1)), none, none, []⟩,
 ⟨(some 19), .p (.build [.bool false, .bool false, .bool false, .bool false, .bool false, .bool false] []), none, none, []⟩,
 ⟨(some 20), .call 1 94 [(.t 17), (.t 18), (.t 19)], none, none, []⟩,
 ⟨(some 21), .load true 7 (.t 2), none, none, []⟩,
 ⟨(some 22), .call 1 89 [(.t 21)], none, none, []⟩,
 ⟨(some 23), .p (.move (.t 1)), none, none, []⟩,
 ⟨(some 24), .p (.build [.bool false, .bool false, .bool false, .bool false, .bool false, .bool false] []), none, none, []⟩,
 ⟨(some 25), .call 1 94 [(.t 22), (.t 23), (.t 24)], none, none, []⟩,
 ⟨(some 26), .p (.build [.int .i64 0, .int .i64 0] [(0, 1, (.t 20)), (1, 1, (.t 25))]), none, none, []⟩,
 ⟨none, .store 2 (.t 4) (.t 26), none, none, []⟩,
 ⟨(some 5), .p (.move (.c (.int .i64 0))), none, none, []⟩])
 (.ret)))⟩
/-- almadraba/almadrabaref02.Spare -/
def f42 : AFn := ⟨55, [.cell true 2 4, .tmp 5],
 .seq (.region 0 [⟨(some 2), .box (.t 0), none, none, []⟩,
 ⟨(some 4), .alloc [.int .i64 0, .int .i64 0], none, none, []⟩,
 ⟨(some 5), .p (.move (.c (.int .i64 0))), none, none, []⟩])
 (.seq (.seq (.region 0 [⟨(some 12), .load true 7 (.t 2), none, none, []⟩,
 ⟨(some 13), .load true 7 (.t 2), none, none, []⟩,
 ⟨(some 14), .p (.move (.t 1)), none, none, []⟩,
 ⟨(some 15), .call 1 57 [(.t 13), (.t 14)], none, none, []⟩,
 ⟨(some 16), .call 1 72 [(.t 12), (.t 15)], none, none, []⟩,
 ⟨(some 6), .p (.move (.t 16)), none, none, []⟩])
 (.seq (.region 0 [⟨(some 17), .p (.move (.t 6)), none, none, []⟩,
 ⟨(some 18), .p (.bin .neq (.t 17) (.c (.int .i64 0))), none, none, []⟩])
 (.cond (.t 18) (.seq (.region 0 [⟨(some 19), .p (.build [.int .i64 0, .int .i64 0] []), none, none, []⟩,
 ⟨(some 20), .p (.move (.t 6)), none, none, []⟩,
 ⟨none, .store 2 (.t 4) (.t 19), none, none, []⟩,
 ⟨(some 5), .p (.move (.t 20)), none, none, []⟩])
 (.ret))
 (.skip))))
 (.seq (.region 0 [⟨(some 21), .load true 7 (.t 2), none, none, []⟩,
 ⟨(some 22), .call 1 91 [(.t 21)], none, none, []⟩,
 ⟨(some 7), .p (.move (.t 22)), none, none, []⟩])
 (.seq (.region 0 [⟨(some 23), .load true 7 (.t 2), none, none, []⟩,
 ⟨(some 24), .p (.move (.t 7)), none, none, []⟩,
 ⟨(some 25), .p (.idxSl 3 (.t 24) (.c (.int .i64 0))), none, none, []⟩,
 ⟨(some 26), .load true 3 (.t 25), none, none, []⟩,
 ⟨(some 27), .p (.move (.t 1)), none, none, []⟩,
 ⟨(some 28), .call 1 55 [(.t 23), (.t 26), (.t 27)], none, none, []⟩,
 ⟨(some 8), .p (.move (.t 28)), none, none, []⟩])
 (.seq (.region 0 [⟨(some 29), .p (.move (.t 8)), none, none, []⟩,
 ⟨(some 30), .p (.move (.t 8)), none, none, []⟩,
 ⟨(some 31), .p (.build [.int .i64 0, .int .i64 0] [(0, 1, (.t 29)), (1, 1, (.t 30))]), none, none, []⟩,
 ⟨(some 9), .alloc [.int .i64 0, .int .i64 0], none, none, []⟩,
 ⟨none, .store 2 (.t 9) (.t 31), none, none, []⟩])
 (.seq (.seq (.region 0 [⟨(some 10), .p (.move (.c (.int .i64 0))), none, none, []⟩])
 (.block 0 (.loop (.seq (.seq (.region 0 [⟨(some 32), .p (.move (.t 10)), none, none, []⟩,
 ⟨(some 33), .p (.move (.t 7)), none, none, []⟩,
 ⟨(some 34), .p (.lenS (.t 33)), none, none, []⟩,
 ⟨(some 35), .p (.bin .lss (.t 32) (.t 34)), none, none, []⟩])
 (.cond (.t 35) (.skip)
 (.exit 0)))
 (.seq (.block 1 (.seq (.region 0 [⟨(some 38), .load true 7 (.t 2), none, none, []⟩,
 ⟨(some 39), .p (.move (.t 7)), none, none, []⟩,
 ⟨(some 40), .p (.move (.t 10)), none, none, []⟩,
 ⟨(some 41), .p (.idxSl 3 (.t 39) (.t 40)), none, none, []⟩,
 ⟨(some 42), .load true 3 (.t 41), none, none, []⟩,
 ⟨(some 43), .p (.move (.t 1)), none, none, []⟩,
 ⟨(some 44), .call 1 55 [(.t 38), (.t 42), (.t 43)], none, none, []⟩,
 ⟨(some 11), .p (.move (.t 44)), none, none, []⟩])
 (.region 0 [⟨(some 45), .p (.fieldAddr 0 (.t 9)), none, none, []⟩,
 ⟨(some 46), .load false 1 (.t 45), none, none, []⟩,
 ⟨(some 47), .p (.move (.t 11)), none, none, []⟩,
 ⟨(some 48), .p (.minmax false (.t 46) [(.t 47)]), none, none, []⟩,
 ⟨(some 49), .p (.fieldAddr 1 (.t 9)), none, none, []⟩,
 ⟨(some 50), .load false 1 (.t 49), none, none, []⟩,
 ⟨(some 51), .p (.move (.t 11)), none, none, []⟩,
 ⟨(some 52), .p (.minmax true (.t 50) [(.t 51)]), none, none, []⟩,
 ⟨(some 53), .p (.build [.int .i64 0, .int .i64 0] [(0, 1, (.t 48)), (1, 1, (.t 52))]), none, none, []⟩,
 ⟨none, .store 2 (.t 9) (.t 53), none, none, []⟩])))
 (.region 0 [⟨(some 36), .p (.move (.t 10)), none, none, []⟩,
 ⟨(some 37), .p (.bin .add (.t 36) (.c (.int .i64 1))), none, none, []⟩,
 ⟨(some 10), .p (.move (.t 37)), none, none, []⟩]))))))
 (.seq (.region 0 [⟨(some 54), .load true 2 (.t 9), none, none, []⟩,
 ⟨none, .store 2 (.t 4) (.t 54), none, none, []⟩,
 ⟨(some 5), .p (.move (.c (.int .i64 0))), none, none, []⟩])
 (.ret)))))))⟩
/-- almadraba/anchors.Wind -/
def f43 : AFn := ⟨16, [.tmp 2, .tmp 3],
 .seq (.region 0 [⟨(some 1), .box (.t 0), none, none, []⟩,
 ⟨(some 2), .p (.move (.c (.int .i64 0))), none, none, []⟩,
 ⟨(some 3), .p (.move (.c (.int .i64 0))), none, none, []⟩])
 (.seq (.seq (.region 0 [⟨(some 5), .load true 7 (.t 1), none, none, []⟩,
 ⟨(some 6), .call 1 18 [(.t 5)], none, none, []⟩,
 ⟨(some 4), .p (.move (.t 6)), none, none, []⟩])
 (.seq (.region 0 [⟨(some 7), .p (.move (.t 4)), none, none, []⟩,
 ⟨(some 8), .p (.bin .neq (.t 7) (.c (.int .i64 0))), none, none, []⟩])
 (.cond (.t 8) (.seq (.region 0 [⟨(some 9), .p (.move (.t 4)), none, none, []⟩,
 ⟨(some 2), .p (.move (.c (.int .i64 0))), none, none, []⟩,
 ⟨(some 3), .p (.move (.t 9)), none, none, []⟩])
 (.ret))
 (.skip))))
 (.seq (.region 0 [⟨(some 10), .load true 7 (.t 1), none, none, []⟩,
 ⟨(some 11), .call 1 90 [(.t 10)], none, none, []⟩,
 ⟨(some 12), .call 1 96 [(.t 11)], none, none, []⟩,
 ⟨(some 13), .call 1 95 [(.t 12)], none, none, []⟩,
 ⟨(some 14), .p (.extract (.t 13) 0), none, none, []⟩,
 ⟨(some 15), .p (.extract (.t 13) 1), none, none, []⟩,
 ⟨(some 2), .p (.move (.t 14)), none, none, []⟩,
 ⟨(some 3), .p (.move (.t 15)), none, none, []⟩])
 (.ret)))⟩
/-- almadraba/almadrabaref02.Wind -/
def f44 : AFn := ⟨16, [.tmp 2, .tmp 3],
 .seq (.region 0 [⟨(some 1), .box (.t 0), none, none, []⟩,
 ⟨(some 2), .p (.move (.c (.int .i64 0))), none, none, []⟩,
 ⟨(some 3), .p (.move (.c (.int .i64 0))), none, none, []⟩])
 (.seq (.seq (.region 0 [⟨(some 6), .load true 7 (.t 1), none, none, []⟩,
 ⟨(some 7), .call 1 19 [(.t 6)], none, none, []⟩,
 ⟨(some 4), .p (.move (.t 7)), none, none, []⟩])
 (.seq (.region 0 [⟨(some 8), .p (.move (.t 4)), none, none, []⟩,
 ⟨(some 9), .p (.bin .neq (.t 8) (.c (.int .i64 0))), none, none, []⟩])
 (.cond (.t 9) (.seq (.region 0 [⟨(some 10), .p (.move (.t 4)), none, none, []⟩,
 ⟨(some 2), .p (.move (.c (.int .i64 0))), none, none, []⟩,
 ⟨(some 3), .p (.move (.t 10)), none, none, []⟩])
 (.ret))
 (.skip))))
 (.seq (.region 0 [⟨(some 11), .load true 7 (.t 1), none, none, []⟩,
 ⟨(some 12), .call 1 97 [(.t 11)], none, none, []⟩,
 ⟨(some 5), .p (.move (.t 12)), none, none, []⟩])
 (.seq (.seq (.region 0 [⟨(some 13), .p (.move (.t 5)), none, none, []⟩,
 ⟨(some 14), .p (.bin .gtr (.t 13) (.c (.int .i64 20))), none, none, []⟩])
 (.cond (.t 14) (.seq (.region 0 [⟨(some 2), .p (.move (.c (.int .i64 0))), none, none, []⟩,
 ⟨(some 3), .p (.move (.c (.int .i64 3))), none, none, []⟩])
 (.ret))
 (.skip)))
 (.seq (.region 0 [⟨(some 15), .p (.move (.t 5)), none, none, []⟩,
 ⟨(some 2), .p (.move (.t 15)), none, none, []⟩,
 ⟨(some 3), .p (.move (.c (.int .i64 0))), none, none, []⟩])
 (.ret)))))⟩
end Go.Proofs.Ytpflneddfhifkaa.T
