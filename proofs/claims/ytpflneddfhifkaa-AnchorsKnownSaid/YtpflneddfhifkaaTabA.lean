/-
The code of functions of the seat, as the abstract machine has it (printed by a tool of ours off the dump).
-/
import Derived.Test.YtpflneddfhifkaaAmX
namespace Go.Proofs.Ytpflneddfhifkaa.T
open Go Go.Am
/-- gosem.cut.init -/
def f2 : AFn := ⟨1, [],
 .region 0 [⟨(some 0), .call 1 1 [], none, none, []⟩]⟩
/-- almadraba/almadrabalaw02.AnchorsLoad -/
def f3 : AFn := ⟨87, [.tmp 4],
 .seq (.region 0 [⟨(some 2), .box (.t 0), none, none, []⟩,
 ⟨(some 3), .box (.t 1), none, none, []⟩,
 ⟨(some 4), .p (.move (.c (.bool false))), none, none, []⟩])
 (.seq (.seq (.region 0 [⟨(some 14), .load true 7 (.t 2), none, none, []⟩,
 ⟨(some 15), .p (.build [.int .i64 0, .int .i64 0, .nils] []), none, none, []⟩,
 ⟨(some 16), .call 1 15 [(.t 14), (.t 15)], none, none, []⟩])
 (.cond (.t 16) (.seq (.region 0 [⟨(some 17), .call 1 16 [], none, none, []⟩,
 ⟨(some 4), .p (.move (.t 17)), none, none, []⟩])
 (.ret))
 (.skip)))
 (.seq (.region 0 [⟨(some 18), .load true 7 (.t 2), none, none, []⟩,
 ⟨(some 19), .call 1 17 [(.t 18)], none, none, []⟩,
 ⟨(some 5), .alloc [.int .i64 0, .int .i64 0, .int .i64 0, .int .i64 0, .nils, .nils, .nils], none, none, []⟩,
 ⟨none, .store 7 (.t 5) (.t 19), none, none, []⟩])
 (.seq (.seq (.region 0 [⟨(some 20), .load true 7 (.t 5), none, none, []⟩,
 ⟨(some 21), .call 1 18 [(.t 20)], none, none, []⟩,
 ⟨(some 22), .load true 7 (.t 2), none, none, []⟩,
 ⟨(some 23), .call 1 19 [(.t 22)], none, none, []⟩,
 ⟨(some 24), .p (.bin .neq (.t 21) (.t 23)), none, none, []⟩])
 (.cond (.t 24) (.seq (.region 0 [⟨(some 4), .p (.move (.c (.bool false))), none, none, []⟩])
 (.ret))
 (.skip)))
 (.seq (.region 0 [⟨(some 26), .load true 7 (.t 5), none, none, []⟩,
 ⟨(some 27), .p (.fieldAddr 0 (.t 3)), none, none, []⟩,
 ⟨(some 28), .load false 1 (.t 27), none, none, []⟩,
 ⟨(some 29), .p (.fieldAddr 1 (.t 3)), none, none, []⟩,
 ⟨(some 30), .load false 1 (.t 29), none, none, []⟩,
 ⟨(some 31), .p (.fieldAddr 2 (.t 3)), none, none, []⟩,
 ⟨(some 32), .load false 1 (.t 31), none, none, []⟩,
 ⟨(some 33), .call 1 20 [(.t 26), (.t 28), (.t 30), (.t 32)], none, none, []⟩,
 ⟨(some 25), .p (.move (.t 33)), none, none, []⟩,
 ⟨(some 34), .p (.extract (.t 25) 0), none, none, []⟩,
 ⟨(some 35), .p (.extract (.t 25) 1), none, none, []⟩,
 ⟨(some 6), .p (.move (.t 34)), none, none, []⟩,
 ⟨(some 7), .p (.move (.t 35)), none, none, []⟩])
 (.seq (.region 0 [⟨(some 37), .load true 7 (.t 2), none, none, []⟩,
 ⟨(some 38), .p (.fieldAddr 0 (.t 3)), none, none, []⟩,
 ⟨(some 39), .load false 1 (.t 38), none, none, []⟩,
 ⟨(some 40), .p (.fieldAddr 1 (.t 3)), none, none, []⟩,
 ⟨(some 41), .load false 1 (.t 40), none, none, []⟩,
 ⟨(some 42), .p (.fieldAddr 2 (.t 3)), none, none, []⟩,
 ⟨(some 43), .load false 1 (.t 42), none, none, []⟩,
 ⟨(some 44), .call 1 21 [(.t 37), (.t 39), (.t 41), (.t 43)], none, none, []⟩,
 ⟨(some 36), .p (.move (.t 44)), none, none, []⟩,
 ⟨(some 45), .p (.extract (.t 36) 0), none, none, []⟩,
 ⟨(some 46), .p (.extract (.t 36) 1), none, none, []⟩,
 ⟨(some 8), .p (.move (.t 45)), none, none, []⟩,
 ⟨(some 9), .p (.move (.t 46)), none, none, []⟩])
 (.seq (.region 0 [⟨(some 48), .load true 7 (.t 5), none, none, []⟩,
 ⟨(some 49), .p (.fieldAddr 0 (.t 3)), none, none, []⟩,
 ⟨(some 50), .load false 1 (.t 49), none, none, []⟩,
 ⟨(some 51), .call 1 22 [(.t 48), (.t 50)], none, none, []⟩,
 ⟨(some 47), .p (.move (.t 51)), none, none, []⟩,
 ⟨(some 52), .p (.extract (.t 47) 0), none, none, []⟩,
 ⟨(some 53), .p (.extract (.t 47) 1), none, none, []⟩,
 ⟨(some 10), .p (.move (.t 52)), none, none, []⟩,
 ⟨(some 11), .p (.move (.t 53)), none, none, []⟩])
 (.seq (.region 0 [⟨(some 55), .load true 7 (.t 2), none, none, []⟩,
 ⟨(some 56), .p (.fieldAddr 0 (.t 3)), none, none, []⟩,
 ⟨(some 57), .load false 1 (.t 56), none, none, []⟩,
 ⟨(some 58), .call 1 23 [(.t 55), (.t 57)], none, none, []⟩,
 ⟨(some 54), .p (.move (.t 58)), none, none, []⟩,
 ⟨(some 59), .p (.extract (.t 54) 0), none, none, []⟩,
 ⟨(some 60), .p (.extract (.t 54) 1), none, none, []⟩,
 ⟨(some 12), .p (.move (.t 59)), none, none, []⟩,
 ⟨(some 13), .p (.move (.t 60)), none, none, []⟩])
 (.seq (.region 0 [⟨(some 61), .p (.move (.t 6)), none, none, []⟩,
 ⟨(some 62), .p (.move (.t 8)), none, none, []⟩,
 ⟨(some 63), .p (.bin .eql (.t 61) (.t 62)), none, none, []⟩,
 ⟨(some 64), .p (.move (.t 63)), none, none, []⟩,
 ⟨(some 65), .p (.move (.t 7)), (some (64, true)), none, []⟩,
 ⟨(some 66), .p (.move (.t 9)), (some (64, true)), none, []⟩,
 ⟨(some 67), .p (.bin .eql (.t 65) (.t 66)), (some (64, true)), none, []⟩,
 ⟨(some 68), .p (.pick (.t 64) (.t 67) (.c (.bool false))), none, none, []⟩,
 ⟨(some 69), .p (.move (.t 68)), none, none, []⟩,
 ⟨(some 70), .p (.move (.t 10)), (some (69, true)), none, []⟩,
 ⟨(some 71), .p (.move (.t 12)), (some (69, true)), none, []⟩,
 ⟨(some 72), .p (.bin .eql (.t 70) (.t 71)), (some (69, true)), none, []⟩,
 ⟨(some 73), .p (.pick (.t 69) (.t 72) (.c (.bool false))), none, none, []⟩,
 ⟨(some 74), .p (.move (.t 73)), none, none, []⟩,
 ⟨(some 75), .p (.move (.t 11)), (some (74, true)), none, []⟩,
 ⟨(some 76), .p (.move (.t 13)), (some (74, true)), none, []⟩,
 ⟨(some 77), .p (.bin .eql (.t 75) (.t 76)), (some (74, true)), none, []⟩,
 ⟨(some 78), .p (.pick (.t 74) (.t 77) (.c (.bool false))), none, none, []⟩,
 ⟨(some 79), .p (.move (.t 78)), none, none, []⟩,
 ⟨(some 80), .load true 7 (.t 5), (some (79, true)), none, []⟩,
 ⟨(some 81), .load true 7 (.t 2), (some (79, true)), none, []⟩,
 ⟨(some 82), .call 1 24 [(.t 80), (.t 81)], (some (79, true)), none, []⟩,
 ⟨(some 83), .p (.pick (.t 79) (.t 82) (.c (.bool false))), none, none, []⟩,
 ⟨(some 84), .p (.move (.t 83)), none, none, []⟩,
 ⟨(some 85), .call 1 16 [], (some (84, true)), none, []⟩,
 ⟨(some 86), .p (.pick (.t 84) (.t 85) (.c (.bool false))), none, none, []⟩,
 ⟨(some 4), .p (.move (.t 86)), none, none, []⟩])
 (.ret)))))))))⟩
/-- almadraba/almadrabalaw02.AnchorsDrags -/
def f4 : AFn := ⟨128, [.tmp 6],
 .seq (.region 0 [⟨(some 3), .box (.t 0), none, none, []⟩,
 ⟨(some 4), .box (.t 1), none, none, []⟩,
 ⟨(some 6), .p (.move (.c (.bool false))), none, none, []⟩])
 (.seq (.seq (.region 0 [⟨(some 19), .load true 7 (.t 3), none, none, []⟩,
 ⟨(some 20), .load true 3 (.t 4), none, none, []⟩,
 ⟨(some 21), .call 1 15 [(.t 19), (.t 20)], none, none, []⟩])
 (.cond (.t 21) (.seq (.region 0 [⟨(some 22), .call 1 16 [], none, none, []⟩,
 ⟨(some 6), .p (.move (.t 22)), none, none, []⟩])
 (.ret))
 (.skip)))
 (.seq (.region 2 [⟨(some 23), .load true 7 (.t 3), none, none, [0, 1]⟩,
 ⟨(some 24), .call 1 17 [(.t 23)], none, none, [0, 1]⟩,
 ⟨(some 25), .load true 3 (.t 4), none, none, [0, 1]⟩,
 ⟨(some 26), .call 1 25 [(.t 25)], none, none, [0, 1]⟩,
 ⟨(some 7), .alloc [.int .i64 0, .int .i64 0, .int .i64 0, .int .i64 0, .nils, .nils, .nils], none, (some 0), []⟩,
 ⟨(some 8), .alloc [.int .i64 0, .int .i64 0, .nils], none, (some 1), []⟩,
 ⟨none, .store 7 (.t 7) (.t 24), none, (some 0), []⟩,
 ⟨none, .store 3 (.t 8) (.t 26), none, (some 1), []⟩])
 (.seq (.region 0 [⟨(some 28), .load true 7 (.t 7), none, none, []⟩,
 ⟨(some 29), .load true 3 (.t 8), none, none, []⟩,
 ⟨(some 30), .call 1 26 [(.t 28), (.t 29)], none, none, []⟩,
 ⟨(some 27), .p (.move (.t 30)), none, none, []⟩,
 ⟨(some 31), .p (.extract (.t 27) 0), none, none, []⟩,
 ⟨(some 32), .p (.extract (.t 27) 1), none, none, []⟩,
 ⟨(some 9), .p (.move (.t 31)), none, none, []⟩,
 ⟨(some 10), .p (.move (.t 32)), none, none, []⟩])
 (.seq (.region 0 [⟨(some 34), .load true 7 (.t 3), none, none, []⟩,
 ⟨(some 35), .load true 3 (.t 4), none, none, []⟩,
 ⟨(some 36), .call 1 27 [(.t 34), (.t 35)], none, none, []⟩,
 ⟨(some 33), .p (.move (.t 36)), none, none, []⟩,
 ⟨(some 37), .p (.extract (.t 33) 0), none, none, []⟩,
 ⟨(some 38), .p (.extract (.t 33) 1), none, none, []⟩,
 ⟨(some 11), .p (.move (.t 37)), none, none, []⟩,
 ⟨(some 12), .p (.move (.t 38)), none, none, []⟩])
 (.seq (.region 0 [⟨(some 40), .load true 7 (.t 7), none, none, []⟩,
 ⟨(some 41), .load true 3 (.t 8), none, none, []⟩,
 ⟨(some 42), .call 1 28 [(.t 40), (.t 41)], none, none, []⟩,
 ⟨(some 39), .p (.move (.t 42)), none, none, []⟩,
 ⟨(some 43), .p (.extract (.t 39) 0), none, none, []⟩,
 ⟨(some 44), .p (.extract (.t 39) 1), none, none, []⟩,
 ⟨(some 13), .p (.move (.t 43)), none, none, []⟩,
 ⟨(some 14), .p (.move (.t 44)), none, none, []⟩])
 (.seq (.region 0 [⟨(some 46), .load true 7 (.t 3), none, none, []⟩,
 ⟨(some 47), .load true 3 (.t 4), none, none, []⟩,
 ⟨(some 48), .call 1 29 [(.t 46), (.t 47)], none, none, []⟩,
 ⟨(some 45), .p (.move (.t 48)), none, none, []⟩,
 ⟨(some 49), .p (.extract (.t 45) 0), none, none, []⟩,
 ⟨(some 50), .p (.extract (.t 45) 1), none, none, []⟩,
 ⟨(some 15), .p (.move (.t 49)), none, none, []⟩,
 ⟨(some 16), .p (.move (.t 50)), none, none, []⟩])
 (.seq (.seq (.region 0 [⟨(some 51), .p (.move (.t 9)), none, none, []⟩,
 ⟨(some 52), .p (.move (.t 11)), none, none, []⟩,
 ⟨(some 53), .call 1 30 [(.t 51), (.t 52)], none, none, []⟩,
 ⟨(some 54), .p (.un .not (.t 53)), none, none, []⟩,
 ⟨(some 55), .p (.move (.t 54)), none, none, []⟩,
 ⟨(some 56), .p (.move (.t 10)), (some (55, false)), none, []⟩,
 ⟨(some 57), .p (.move (.t 12)), (some (55, false)), none, []⟩,
 ⟨(some 58), .p (.bin .neq (.t 56) (.t 57)), (some (55, false)), none, []⟩,
 ⟨(some 59), .p (.pick (.t 55) (.c (.bool true)) (.t 58)), none, none, []⟩,
 ⟨(some 60), .p (.move (.t 59)), none, none, []⟩,
 ⟨(some 61), .p (.move (.t 13)), (some (60, false)), none, []⟩,
 ⟨(some 62), .p (.move (.t 15)), (some (60, false)), none, []⟩,
 ⟨(some 63), .call 1 30 [(.t 61), (.t 62)], (some (60, false)), none, []⟩,
 ⟨(some 64), .p (.un .not (.t 63)), (some (60, false)), none, []⟩,
 ⟨(some 65), .p (.pick (.t 60) (.c (.bool true)) (.t 64)), none, none, []⟩,
 ⟨(some 66), .p (.move (.t 65)), none, none, []⟩,
 ⟨(some 67), .p (.move (.t 14)), (some (66, false)), none, []⟩,
 ⟨(some 68), .p (.move (.t 16)), (some (66, false)), none, []⟩,
 ⟨(some 69), .p (.bin .neq (.t 67) (.t 68)), (some (66, false)), none, []⟩,
 ⟨(some 70), .p (.pick (.t 66) (.c (.bool true)) (.t 69)), none, none, []⟩])
 (.cond (.t 70) (.seq (.region 0 [⟨(some 6), .p (.move (.c (.bool false))), none, none, []⟩])
 (.ret))
 (.skip)))
 (.seq (.region 0 [⟨(some 72), .load true 7 (.t 7), none, none, []⟩,
 ⟨(some 73), .load true 3 (.t 8), none, none, []⟩,
 ⟨(some 74), .p (.move (.t 2)), none, none, []⟩,
 ⟨(some 75), .call 1 31 [(.t 72), (.t 73), (.t 74)], none, none, []⟩,
 ⟨(some 71), .p (.move (.t 75)), none, none, []⟩,
 ⟨(some 76), .p (.extract (.t 71) 0), none, none, []⟩,
 ⟨(some 77), .p (.extract (.t 71) 1), none, none, []⟩,
 ⟨(some 9), .p (.move (.t 76)), none, none, []⟩,
 ⟨(some 10), .p (.move (.t 77)), none, none, []⟩])
 (.seq (.region 0 [⟨(some 79), .load true 7 (.t 3), none, none, []⟩,
 ⟨(some 80), .load true 3 (.t 4), none, none, []⟩,
 ⟨(some 81), .p (.move (.t 2)), none, none, []⟩,
 ⟨(some 82), .call 1 32 [(.t 79), (.t 80), (.t 81)], none, none, []⟩,
 ⟨(some 78), .p (.move (.t 82)), none, none, []⟩,
 ⟨(some 83), .p (.extract (.t 78) 0), none, none, []⟩,
 ⟨(some 84), .p (.extract (.t 78) 1), none, none, []⟩,
 ⟨(some 11), .p (.move (.t 83)), none, none, []⟩,
 ⟨(some 12), .p (.move (.t 84)), none, none, []⟩])
 (.seq (.region 0 [⟨(some 86), .load true 7 (.t 7), none, none, []⟩,
 ⟨(some 87), .load true 3 (.t 8), none, none, []⟩,
 ⟨(some 88), .call 1 33 [(.t 86), (.t 87)], none, none, []⟩,
 ⟨(some 85), .p (.move (.t 88)), none, none, []⟩,
 ⟨(some 89), .p (.extract (.t 85) 0), none, none, []⟩,
 ⟨(some 90), .p (.extract (.t 85) 1), none, none, []⟩,
 ⟨(some 17), .p (.move (.t 89)), none, none, []⟩,
 ⟨(some 14), .p (.move (.t 90)), none, none, []⟩])
 (.seq (.region 0 [⟨(some 92), .load true 7 (.t 3), none, none, []⟩,
 ⟨(some 93), .load true 3 (.t 4), none, none, []⟩,
 ⟨(some 94), .call 1 34 [(.t 92), (.t 93)], none, none, []⟩,
 ⟨(some 91), .p (.move (.t 94)), none, none, []⟩,
 ⟨(some 95), .p (.extract (.t 91) 0), none, none, []⟩,
 ⟨(some 96), .p (.extract (.t 91) 1), none, none, []⟩,
 ⟨(some 18), .p (.move (.t 95)), none, none, []⟩,
 ⟨(some 16), .p (.move (.t 96)), none, none, []⟩])
 (.seq (.region 0 [⟨(some 97), .p (.move (.t 9)), none, none, []⟩,
 ⟨(some 98), .p (.move (.t 11)), none, none, []⟩,
 ⟨(some 99), .call 1 30 [(.t 97), (.t 98)], none, none, []⟩,
 ⟨(some 100), .p (.move (.t 99)), none, none, []⟩,
 ⟨(some 101), .p (.move (.t 10)), (some (100, true)), none, []⟩,
 ⟨(some 102), .p (.move (.t 12)), (some (100, true)), none, []⟩,
 ⟨(some 103), .p (.bin .eql (.t 101) (.t 102)), (some (100, true)), none, []⟩,
 ⟨(some 104), .p (.pick (.t 100) (.t 103) (.c (.bool false))), none, none, []⟩,
 ⟨(some 105), .p (.move (.t 104)), none, none, []⟩,
 ⟨(some 106), .p (.move (.t 17)), (some (105, true)), none, []⟩,
 ⟨(some 107), .p (.move (.t 18)), (some (105, true)), none, []⟩,
 ⟨(some 108), .p (.bin .eql (.t 106) (.t 107)), (some (105, true)), none, []⟩,
 ⟨(some 109), .p (.pick (.t 105) (.t 108) (.c (.bool false))), none, none, []⟩,
 ⟨(some 110), .p (.move (.t 109)), none, none, []⟩,
 ⟨(some 111), .p (.move (.t 14)), (some (110, true)), none, []⟩,
 ⟨(some 112), .p (.move (.t 16)), (some (110, true)), none, []⟩,
 ⟨(some 113), .p (.bin .eql (.t 111) (.t 112)), (some (110, true)), none, []⟩,
 ⟨(some 114), .p (.pick (.t 110) (.t 113) (.c (.bool false))), none, none, []⟩,
 ⟨(some 115), .p (.move (.t 114)), none, none, []⟩,
 ⟨(some 116), .load true 7 (.t 7), (some (115, true)), none, []⟩,
 ⟨(some 117), .load true 7 (.t 3), (some (115, true)), none, []⟩,
 ⟨(some 118), .call 1 24 [(.t 116), (.t 117)], (some (115, true)), none, []⟩,
 ⟨(some 119), .p (.pick (.t 115) (.t 118) (.c (.bool false))), none, none, []⟩,
 ⟨(some 120), .p (.move (.t 119)), none, none, []⟩,
 ⟨(some 121), .load true 3 (.t 8), (some (120, true)), none, []⟩,
 ⟨(some 122), .load true 3 (.t 4), (some (120, true)), none, []⟩,
 ⟨(some 123), .call 1 35 [(.t 121), (.t 122)], (some (120, true)), none, []⟩,
 ⟨(some 124), .p (.pick (.t 120) (.t 123) (.c (.bool false))), none, none, []⟩,
 ⟨(some 125), .p (.move (.t 124)), none, none, []⟩,
 ⟨(some 126), .call 1 16 [], (some (125, true)), none, []⟩,
 ⟨(some 127), .p (.pick (.t 125) (.t 126) (.c (.bool false))), none, none, []⟩,
 ⟨(some 6), .p (.move (.t 127)), none, none, []⟩])
 (.ret)))))))))))))⟩
/-- almadraba/almadrabalaw02.AnchorsKnown -/
def f5 : AFn := ⟨93, [.tmp 4],
 .seq (.region 0 [⟨(some 2), .box (.t 0), none, none, []⟩,
 ⟨(some 4), .p (.move (.c (.bool false))), none, none, []⟩])
 (.seq (.seq (.region 0 [⟨(some 18), .load true 7 (.t 2), none, none, []⟩,
 ⟨(some 19), .call 1 36 [(.t 18)], none, none, []⟩])
 (.cond (.t 19) (.seq (.region 0 [⟨(some 20), .call 1 16 [], none, none, []⟩,
 ⟨(some 4), .p (.move (.t 20)), none, none, []⟩])
 (.ret))
 (.skip)))
 (.seq (.region 0 [⟨(some 21), .load true 7 (.t 2), none, none, []⟩,
 ⟨(some 22), .call 1 17 [(.t 21)], none, none, []⟩,
 ⟨(some 5), .alloc [.int .i64 0, .int .i64 0, .int .i64 0, .int .i64 0, .nils, .nils, .nils], none, none, []⟩,
 ⟨none, .store 7 (.t 5) (.t 22), none, none, []⟩])
 (.seq (.region 0 [⟨(some 24), .load true 7 (.t 5), none, none, []⟩,
 ⟨(some 25), .p (.move (.t 1)), none, none, []⟩,
 ⟨(some 26), .call 1 37 [(.t 24), (.t 25)], none, none, []⟩,
 ⟨(some 23), .p (.move (.t 26)), none, none, []⟩,
 ⟨(some 27), .p (.extract (.t 23) 0), none, none, []⟩,
 ⟨(some 28), .p (.extract (.t 23) 1), none, none, []⟩,
 ⟨(some 6), .p (.move (.t 27)), none, none, []⟩,
 ⟨(some 7), .p (.move (.t 28)), none, none, []⟩])
 (.seq (.region 0 [⟨(some 30), .load true 7 (.t 2), none, none, []⟩,
 ⟨(some 31), .p (.move (.t 1)), none, none, []⟩,
 ⟨(some 32), .call 1 38 [(.t 30), (.t 31)], none, none, []⟩,
 ⟨(some 29), .p (.move (.t 32)), none, none, []⟩,
 ⟨(some 33), .p (.extract (.t 29) 0), none, none, []⟩,
 ⟨(some 34), .p (.extract (.t 29) 1), none, none, []⟩,
 ⟨(some 8), .p (.move (.t 33)), none, none, []⟩,
 ⟨(some 9), .p (.move (.t 34)), none, none, []⟩])
 (.seq (.region 0 [⟨(some 36), .load true 7 (.t 5), none, none, []⟩,
 ⟨(some 37), .call 1 39 [(.t 36)], none, none, []⟩,
 ⟨(some 35), .p (.move (.t 37)), none, none, []⟩,
 ⟨(some 38), .p (.extract (.t 35) 0), none, none, []⟩,
 ⟨(some 39), .p (.extract (.t 35) 1), none, none, []⟩,
 ⟨(some 10), .p (.move (.t 38)), none, none, []⟩,
 ⟨(some 11), .p (.move (.t 39)), none, none, []⟩])
 (.seq (.region 0 [⟨(some 41), .load true 7 (.t 2), none, none, []⟩,
 ⟨(some 42), .call 1 40 [(.t 41)], none, none, []⟩,
 ⟨(some 40), .p (.move (.t 42)), none, none, []⟩,
 ⟨(some 43), .p (.extract (.t 40) 0), none, none, []⟩,
 ⟨(some 44), .p (.extract (.t 40) 1), none, none, []⟩,
 ⟨(some 12), .p (.move (.t 43)), none, none, []⟩,
 ⟨(some 13), .p (.move (.t 44)), none, none, []⟩])
 (.seq (.region 0 [⟨(some 46), .load true 7 (.t 5), none, none, []⟩,
 ⟨(some 47), .p (.move (.t 1)), none, none, []⟩,
 ⟨(some 48), .call 1 41 [(.t 46), (.t 47)], none, none, []⟩,
 ⟨(some 45), .p (.move (.t 48)), none, none, []⟩,
 ⟨(some 49), .p (.extract (.t 45) 0), none, none, []⟩,
 ⟨(some 50), .p (.extract (.t 45) 1), none, none, []⟩,
 ⟨(some 14), .alloc [.int .i64 0, .int .i64 0], none, none, []⟩,
 ⟨none, .store 2 (.t 14) (.t 49), none, none, []⟩,
 ⟨(some 15), .p (.move (.t 50)), none, none, []⟩])
 (.seq (.region 0 [⟨(some 52), .load true 7 (.t 2), none, none, []⟩,
 ⟨(some 53), .p (.move (.t 1)), none, none, []⟩,
 ⟨(some 54), .call 1 42 [(.t 52), (.t 53)], none, none, []⟩,
 ⟨(some 51), .p (.move (.t 54)), none, none, []⟩,
 ⟨(some 55), .p (.extract (.t 51) 0), none, none, []⟩,
 ⟨(some 56), .p (.extract (.t 51) 1), none, none, []⟩,
 ⟨(some 16), .alloc [.int .i64 0, .int .i64 0], none, none, []⟩,
 ⟨none, .store 2 (.t 16) (.t 55), none, none, []⟩,
 ⟨(some 17), .p (.move (.t 56)), none, none, []⟩])
 (.seq (.region 0 [⟨(some 57), .p (.move (.t 6)), none, none, []⟩,
 ⟨(some 58), .p (.move (.t 8)), none, none, []⟩,
 ⟨(some 59), .p (.bin .eql (.t 57) (.t 58)), none, none, []⟩,
 ⟨(some 60), .p (.move (.t 59)), none, none, []⟩,
 ⟨(some 61), .p (.move (.t 7)), (some (60, true)), none, []⟩,
 ⟨(some 62), .p (.move (.t 9)), (some (60, true)), none, []⟩,
 ⟨(some 63), .p (.bin .eql (.t 61) (.t 62)), (some (60, true)), none, []⟩,
 ⟨(some 64), .p (.pick (.t 60) (.t 63) (.c (.bool false))), none, none, []⟩,
 ⟨(some 65), .p (.move (.t 64)), none, none, []⟩,
 ⟨(some 66), .p (.move (.t 10)), (some (65, true)), none, []⟩,
 ⟨(some 67), .p (.move (.t 12)), (some (65, true)), none, []⟩,
 ⟨(some 68), .p (.bin .eql (.t 66) (.t 67)), (some (65, true)), none, []⟩,
 ⟨(some 69), .p (.pick (.t 65) (.t 68) (.c (.bool false))), none, none, []⟩,
 ⟨(some 70), .p (.move (.t 69)), none, none, []⟩,
 ⟨(some 71), .p (.move (.t 11)), (some (70, true)), none, []⟩,
 ⟨(some 72), .p (.move (.t 13)), (some (70, true)), none, []⟩,
 ⟨(some 73), .p (.bin .eql (.t 71) (.t 72)), (some (70, true)), none, []⟩,
 ⟨(some 74), .p (.pick (.t 70) (.t 73) (.c (.bool false))), none, none, []⟩,
 ⟨(some 75), .p (.move (.t 74)), none, none, []⟩,
 ⟨(some 76), .load true 2 (.t 14), (some (75, true)), none, []⟩,
 ⟨(some 77), .load true 2 (.t 16), (some (75, true)), none, []⟩,
 ⟨(some 78), .p (.eqS false [true, true] (.t 76) (.t 77)), (some (75, true)), none, []⟩,
 ⟨(some 79), .p (.pick (.t 75) (.t 78) (.c (.bool false))), none, none, []⟩,
 ⟨(some 80), .p (.move (.t 79)), none, none, []⟩,
 ⟨(some 81), .p (.move (.t 15)), (some (80, true)), none, []⟩,
 ⟨(some 82), .p (.move (.t 17)), (some (80, true)), none, []⟩,
 ⟨(some 83), .p (.bin .eql (.t 81) (.t 82)), (some (80, true)), none, []⟩,
 ⟨(some 84), .p (.pick (.t 80) (.t 83) (.c (.bool false))), none, none, []⟩,
 ⟨(some 85), .p (.move (.t 84)), none, none, []⟩,
 ⟨(some 86), .load true 7 (.t 5), (some (85, true)), none, []⟩,
 ⟨(some 87), .load true 7 (.t 2), (some (85, true)), none, []⟩,
 ⟨(some 88), .call 1 24 [(.t 86), (.t 87)], (some (85, true)), none, []⟩,
 ⟨(some 89), .p (.pick (.t 85) (.t 88) (.c (.bool false))), none, none, []⟩,
 ⟨(some 90), .p (.move (.t 89)), none, none, []⟩,
 ⟨(some 91), .call 1 16 [], (some (90, true)), none, []⟩,
 ⟨(some 92), .p (.pick (.t 90) (.t 91) (.c (.bool false))), none, none, []⟩,
 ⟨(some 4), .p (.move (.t 92)), none, none, []⟩])
 (.ret))))))))))⟩
/-- almadraba/almadrabalaw02.AnchorsWind -/
def f6 : AFn := ⟨63, [.tmp 2],
 .seq (.region 0 [⟨(some 1), .box (.t 0), none, none, []⟩,
 ⟨(some 2), .p (.move (.c (.bool false))), none, none, []⟩])
 (.seq (.seq (.region 0 [⟨(some 12), .load true 7 (.t 1), none, none, []⟩,
 ⟨(some 13), .call 1 36 [(.t 12)], none, none, []⟩])
 (.cond (.t 13) (.seq (.region 0 [⟨(some 14), .call 1 16 [], none, none, []⟩,
 ⟨(some 2), .p (.move (.t 14)), none, none, []⟩])
 (.ret))
 (.skip)))
 (.seq (.region 0 [⟨(some 15), .load true 7 (.t 1), none, none, []⟩,
 ⟨(some 16), .call 1 17 [(.t 15)], none, none, []⟩,
 ⟨(some 3), .alloc [.int .i64 0, .int .i64 0, .int .i64 0, .int .i64 0, .nils, .nils, .nils], none, none, []⟩,
 ⟨none, .store 7 (.t 3) (.t 16), none, none, []⟩])
 (.seq (.region 0 [⟨(some 18), .load true 7 (.t 3), none, none, []⟩,
 ⟨(some 19), .call 1 43 [(.t 18)], none, none, []⟩,
 ⟨(some 17), .p (.move (.t 19)), none, none, []⟩,
 ⟨(some 20), .p (.extract (.t 17) 0), none, none, []⟩,
 ⟨(some 21), .p (.extract (.t 17) 1), none, none, []⟩,
 ⟨(some 4), .p (.move (.t 20)), none, none, []⟩,
 ⟨(some 5), .p (.move (.t 21)), none, none, []⟩])
 (.seq (.region 0 [⟨(some 23), .load true 7 (.t 1), none, none, []⟩,
 ⟨(some 24), .call 1 44 [(.t 23)], none, none, []⟩,
 ⟨(some 22), .p (.move (.t 24)), none, none, []⟩,
 ⟨(some 25), .p (.extract (.t 22) 0), none, none, []⟩,
 ⟨(some 26), .p (.extract (.t 22) 1), none, none, []⟩,
 ⟨(some 6), .p (.move (.t 25)), none, none, []⟩,
 ⟨(some 7), .p (.move (.t 26)), none, none, []⟩])
 (.seq (.region 0 [⟨(some 28), .load true 7 (.t 3), none, none, []⟩,
 ⟨(some 29), .call 1 45 [(.t 28)], none, none, []⟩,
 ⟨(some 27), .p (.move (.t 29)), none, none, []⟩,
 ⟨(some 30), .p (.extract (.t 27) 0), none, none, []⟩,
 ⟨(some 31), .p (.extract (.t 27) 1), none, none, []⟩,
 ⟨(some 8), .p (.move (.t 30)), none, none, []⟩,
 ⟨(some 9), .p (.move (.t 31)), none, none, []⟩])
 (.seq (.region 0 [⟨(some 33), .load true 7 (.t 1), none, none, []⟩,
 ⟨(some 34), .call 1 46 [(.t 33)], none, none, []⟩,
 ⟨(some 32), .p (.move (.t 34)), none, none, []⟩,
 ⟨(some 35), .p (.extract (.t 32) 0), none, none, []⟩,
 ⟨(some 36), .p (.extract (.t 32) 1), none, none, []⟩,
 ⟨(some 10), .p (.move (.t 35)), none, none, []⟩,
 ⟨(some 11), .p (.move (.t 36)), none, none, []⟩])
 (.seq (.region 0 [⟨(some 37), .p (.move (.t 4)), none, none, []⟩,
 ⟨(some 38), .p (.move (.t 6)), none, none, []⟩,
 ⟨(some 39), .p (.bin .eql (.t 37) (.t 38)), none, none, []⟩,
 ⟨(some 40), .p (.move (.t 39)), none, none, []⟩,
 ⟨(some 41), .p (.move (.t 5)), (some (40, true)), none, []⟩,
 ⟨(some 42), .p (.move (.t 7)), (some (40, true)), none, []⟩,
 ⟨(some 43), .p (.bin .eql (.t 41) (.t 42)), (some (40, true)), none, []⟩,
 ⟨(some 44), .p (.pick (.t 40) (.t 43) (.c (.bool false))), none, none, []⟩,
 ⟨(some 45), .p (.move (.t 44)), none, none, []⟩,
 ⟨(some 46), .p (.move (.t 8)), (some (45, true)), none, []⟩,
 ⟨(some 47), .p (.move (.t 10)), (some (45, true)), none, []⟩,
 ⟨(some 48), .p (.bin .eql (.t 46) (.t 47)), (some (45, true)), none, []⟩,
 ⟨(some 49), .p (.pick (.t 45) (.t 48) (.c (.bool false))), none, none, []⟩,
 ⟨(some 50), .p (.move (.t 49)), none, none, []⟩,
 ⟨(some 51), .p (.move (.t 9)), (some (50, true)), none, []⟩,
 ⟨(some 52), .p (.move (.t 11)), (some (50, true)), none, []⟩,
 ⟨(some 53), .p (.bin .eql (.t 51) (.t 52)), (some (50, true)), none, []⟩,
 ⟨(some 54), .p (.pick (.t 50) (.t 53) (.c (.bool false))), none, none, []⟩,
 ⟨(some 55), .p (.move (.t 54)), none, none, []⟩,
 ⟨(some 56), .load true 7 (.t 3), (some (55, true)), none, []⟩,
 ⟨(some 57), .load true 7 (.t 1), (some (55, true)), none, []⟩,
 ⟨(some 58), .call 1 24 [(.t 56), (.t 57)], (some (55, true)), none, []⟩,
 ⟨(some 59), .p (.pick (.t 55) (.t 58) (.c (.bool false))), none, none, []⟩,
 ⟨(some 60), .p (.move (.t 59)), none, none, []⟩,
 ⟨(some 61), .call 1 16 [], (some (60, true)), none, []⟩,
 ⟨(some 62), .p (.pick (.t 60) (.t 61) (.c (.bool false))), none, none, []⟩,
 ⟨(some 2), .p (.move (.t 62)), none, none, []⟩])
 (.ret))))))))⟩
/-- almadraba/almadrabalaw02.AnchorsHelp -/
def f7 : AFn := ⟨63, [.tmp 2],
 .seq (.region 0 [⟨(some 1), .box (.t 0), none, none, []⟩,
 ⟨(some 2), .p (.move (.c (.bool false))), none, none, []⟩])
 (.seq (.seq (.region 0 [⟨(some 12), .load true 7 (.t 1), none, none, []⟩,
 ⟨(some 13), .call 1 36 [(.t 12)], none, none, []⟩])
 (.cond (.t 13) (.seq (.region 0 [⟨(some 14), .call 1 16 [], none, none, []⟩,
 ⟨(some 2), .p (.move (.t 14)), none, none, []⟩])
 (.ret))
 (.skip)))
 (.seq (.region 0 [⟨(some 15), .load true 7 (.t 1), none, none, []⟩,
 ⟨(some 16), .call 1 17 [(.t 15)], none, none, []⟩,
 ⟨(some 3), .alloc [.int .i64 0, .int .i64 0, .int .i64 0, .int .i64 0, .nils, .nils, .nils], none, none, []⟩,
 ⟨none, .store 7 (.t 3) (.t 16), none, none, []⟩])
 (.seq (.region 0 [⟨(some 18), .load true 7 (.t 3), none, none, []⟩,
 ⟨(some 19), .call 1 47 [(.t 18)], none, none, []⟩,
 ⟨(some 17), .p (.move (.t 19)), none, none, []⟩,
 ⟨(some 20), .p (.extract (.t 17) 0), none, none, []⟩,
 ⟨(some 21), .p (.extract (.t 17) 1), none, none, []⟩,
 ⟨(some 4), .p (.move (.t 20)), none, none, []⟩,
 ⟨(some 5), .p (.move (.t 21)), none, none, []⟩])
 (.seq (.region 0 [⟨(some 23), .load true 7 (.t 1), none, none, []⟩,
 ⟨(some 24), .call 1 48 [(.t 23)], none, none, []⟩,
 ⟨(some 22), .p (.move (.t 24)), none, none, []⟩,
 ⟨(some 25), .p (.extract (.t 22) 0), none, none, []⟩,
 ⟨(some 26), .p (.extract (.t 22) 1), none, none, []⟩,
 ⟨(some 6), .p (.move (.t 25)), none, none, []⟩,
 ⟨(some 7), .p (.move (.t 26)), none, none, []⟩])
 (.seq (.region 0 [⟨(some 28), .load true 7 (.t 3), none, none, []⟩,
 ⟨(some 29), .call 1 49 [(.t 28)], none, none, []⟩,
 ⟨(some 27), .p (.move (.t 29)), none, none, []⟩,
 ⟨(some 30), .p (.extract (.t 27) 0), none, none, []⟩,
 ⟨(some 31), .p (.extract (.t 27) 1), none, none, []⟩,
 ⟨(some 8), .p (.move (.t 30)), none, none, []⟩,
 ⟨(some 9), .p (.move (.t 31)), none, none, []⟩])
 (.seq (.region 0 [⟨(some 33), .load true 7 (.t 1), none, none, []⟩,
 ⟨(some 34), .call 1 50 [(.t 33)], none, none, []⟩,
 ⟨(some 32), .p (.move (.t 34)), none, none, []⟩,
 ⟨(some 35), .p (.extract (.t 32) 0), none, none, []⟩,
 ⟨(some 36), .p (.extract (.t 32) 1), none, none, []⟩,
 ⟨(some 10), .p (.move (.t 35)), none, none, []⟩,
 ⟨(some 11), .p (.move (.t 36)), none, none, []⟩])
 (.seq (.region 0 [⟨(some 37), .p (.move (.t 4)), none, none, []⟩,
 ⟨(some 38), .p (.move (.t 6)), none, none, []⟩,
 ⟨(some 39), .p (.bin .eql (.t 37) (.t 38)), none, none, []⟩,
 ⟨(some 40), .p (.move (.t 39)), none, none, []⟩,
 ⟨(some 41), .p (.move (.t 5)), (some (40, true)), none, []⟩,
 ⟨(some 42), .p (.move (.t 7)), (some (40, true)), none, []⟩,
 ⟨(some 43), .p (.bin .eql (.t 41) (.t 42)), (some (40, true)), none, []⟩,
 ⟨(some 44), .p (.pick (.t 40) (.t 43) (.c (.bool false))), none, none, []⟩,
 ⟨(some 45), .p (.move (.t 44)), none, none, []⟩,
 ⟨(some 46), .p (.move (.t 8)), (some (45, true)), none, []⟩,
 ⟨(some 47), .p (.move (.t 10)), (some (45, true)), none, []⟩,
 ⟨(some 48), .call 1 30 [(.t 46), (.t 47)], (some (45, true)), none, []⟩,
 ⟨(some 49), .p (.pick (.t 45) (.t 48) (.c (.bool false))), none, none, []⟩,
 ⟨(some 50), .p (.move (.t 49)), none, none, []⟩,
 ⟨(some 51), .p (.move (.t 9)), (some (50, true)), none, []⟩,
 ⟨(some 52), .p (.move (.t 11)), (some (50, true)), none, []⟩,
 ⟨(some 53), .p (.bin .eql (.t 51) (.t 52)), (some (50, true)), none, []⟩,
 ⟨(some 54), .p (.pick (.t 50) (.t 53) (.c (.bool false))), none, none, []⟩,
 ⟨(some 55), .p (.move (.t 54)), none, none, []⟩,
 ⟨(some 56), .load true 7 (.t 3), (some (55, true)), none, []⟩,
 ⟨(some 57), .load true 7 (.t 1), (some (55, true)), none, []⟩,
 ⟨(some 58), .call 1 24 [(.t 56), (.t 57)], (some (55, true)), none, []⟩,
 ⟨(some 59), .p (.pick (.t 55) (.t 58) (.c (.bool false))), none, none, []⟩,
 ⟨(some 60), .p (.move (.t 59)), none, none, []⟩,
 ⟨(some 61), .call 1 16 [], (some (60, true)), none, []⟩,
 ⟨(some 62), .p (.pick (.t 60) (.t 61) (.c (.bool false))), none, none, []⟩,
 ⟨(some 2), .p (.move (.t 62)), none, none, []⟩])
 (.ret))))))))⟩
/-- almadraba/almadrabalaw02.AnchorsEach -/
def f8 : AFn := ⟨152, [.tmp 4],
 .seq (.region 0 [⟨(some 2), .box (.t 0), none, none, []⟩,
 ⟨(some 3), .box (.t 1), none, none, []⟩,
 ⟨(some 4), .p (.move (.c (.bool false))), none, none, []⟩])
 (.seq (.seq (.region 0 [⟨(some 18), .load true 7 (.t 2), none, none, []⟩,
 ⟨(some 19), .load true 3 (.t 3), none, none, []⟩,
 ⟨(some 20), .call 1 51 [(.t 18), (.t 19)], none, none, []⟩,
 ⟨(some 21), .p (.un .not (.t 20)), none, none, []⟩])
 (.cond (.t 21) (.seq (.region 0 [⟨(some 22), .call 1 16 [], none, none, []⟩,
 ⟨(some 4), .p (.move (.t 22)), none, none, []⟩])
 (.ret))
 (.skip)))
 (.seq (.region 0 [⟨(some 24), .load true 7 (.t 2), none, none, []⟩,
 ⟨(some 25), .load true 3 (.t 3), none, none, []⟩,
 ⟨(some 26), .call 1 25 [(.t 25)], none, none, []⟩,
 ⟨(some 27), .call 1 26 [(.t 24), (.t 26)], none, none, []⟩,
 ⟨(some 23), .p (.move (.t 27)), none, none, []⟩,
 ⟨(some 28), .p (.extract (.t 23) 0), none, none, []⟩,
 ⟨(some 29), .p (.extract (.t 23) 1), none, none, []⟩,
 ⟨(some 5), .p (.move (.t 28)), none, none, []⟩,
 ⟨(some 6), .p (.move (.t 29)), none, none, []⟩])
 (.seq (.region 0 [⟨(some 31), .load true 7 (.t 2), none, none, []⟩,
 ⟨(some 32), .load true 3 (.t 3), none, none, []⟩,
 ⟨(some 33), .call 1 52 [(.t 31), (.t 32)], none, none, []⟩,
 ⟨(some 30), .p (.move (.t 33)), none, none, []⟩,
 ⟨(some 34), .p (.extract (.t 30) 0), none, none, []⟩,
 ⟨(some 35), .p (.extract (.t 30) 1), none, none, []⟩,
 ⟨(some 7), .p (.move (.t 34)), none, none, []⟩,
 ⟨(some 8), .p (.move (.t 35)), none, none, []⟩])
 (.seq (.region 0 [⟨(some 37), .load true 7 (.t 2), none, none, []⟩,
 ⟨(some 38), .call 1 39 [(.t 37)], none, none, []⟩,
 ⟨(some 36), .p (.move (.t 38)), none, none, []⟩,
 ⟨(some 39), .p (.extract (.t 36) 0), none, none, []⟩,
 ⟨(some 40), .p (.extract (.t 36) 1), none, none, []⟩,
 ⟨(some 9), .p (.move (.t 39)), none, none, []⟩,
 ⟨(some 10), .p (.move (.t 40)), none, none, []⟩])
 (.seq (.seq (.region 0 [⟨(some 41), .p (.move (.t 6)), none, none, []⟩,
 ⟨(some 42), .p (.bin .neq (.t 41) (.c (.int .i64 0))), none, none, []⟩,
 ⟨(some 43), .p (.move (.t 42)), none, none, []⟩,
 ⟨(some 44), .p (.move (.t 8)), (some (43, false)), none, []⟩,
 ⟨(some 45), .p (.un .not (.t 44)), (some (43, false)), none, []⟩,
 ⟨(some 46), .p (.pick (.t 43) (.c (.bool true)) (.t 45)), none, none, []⟩,
 ⟨(some 47), .p (.move (.t 46)), none, none, []⟩,
 ⟨(some 48), .p (.move (.t 10)), (some (47, false)), none, []⟩,
 ⟨(some 49), .p (.bin .neq (.t 48) (.c (.int .i64 0))), (some (47, false)), none, []⟩,
 ⟨(some 50), .p (.pick (.t 47) (.c (.bool true)) (.t 49)), none, none, []⟩,
 ⟨(some 51), .p (.move (.t 50)), none, none, []⟩,
 ⟨(some 52), .p (.move (.t 5)), (some (51, false)), none, []⟩,
 ⟨(some 53), .p (.fieldAddr 5 (.t 2)), (some (51, false)), none, []⟩,
 ⟨(some 54), .load false 1 (.t 53), (some (51, false)), none, []⟩,
 ⟨(some 55), .p (.lenS (.t 54)), (some (51, false)), none, []⟩,
 ⟨(some 56), .p (.bin .sub (.t 55) (.c (.int .i64 1))), (some (51, false)), none, []⟩,
 ⟨(some 57), .call 1 53 [(.t 52), (.c (.int .i64 0)), (.t 56)], (some (51, false)), none, []⟩,
 ⟨(some 58), .p (.un .not (.t 57)), (some (51, false)), none, []⟩,
 ⟨(some 59), .p (.pick (.t 51) (.c (.bool true)) (.t 58)), none, none, []⟩,
 ⟨(some 60), .p (.move (.t 59)), none, none, []⟩,
 ⟨(some 61), .p (.move (.t 5)), (some (60, false)), none, []⟩,
 ⟨(some 62), .p (.move (.t 7)), (some (60, false)), none, []⟩,
 ⟨(some 63), .call 1 54 [(.t 61), (.t 62)], (some (60, false)), none, []⟩,
 ⟨(some 64), .p (.un .not (.t 63)), (some (60, false)), none, []⟩,
 ⟨(some 65), .p (.pick (.t 60) (.c (.bool true)) (.t 64)), none, none, []⟩,
 ⟨(some 66), .p (.move (.t 65)), none, none, []⟩,
 ⟨(some 67), .p (.move (.t 9)), (some (66, false)), none, []⟩,
 ⟨(some 68), .p (.bin .eql (.t 67) (.c (.int .i64 1))), (some (66, false)), none, []⟩,
 ⟨(some 69), .p (.move (.t 68)), (some (66, false)), none, []⟩,
 ⟨(some 70), .p (.move (.t 5)), (some (69, true)), none, []⟩,
 ⟨(some 71), .p (.lenS (.t 70)), (some (69, true)), none, []⟩,
 ⟨(some 72), .p (.bin .gtr (.t 71) (.c (.int .i64 0))), (some (69, true)), none, []⟩,
 ⟨(some 73), .p (.pick (.t 69) (.t 72) (.c (.bool false))), (some (66, false)), none, []⟩,
 ⟨(some 74), .p (.pick (.t 66) (.c (.bool true)) (.t 73)), none, none, []⟩,
 ⟨(some 75), .p (.move (.t 74)), none, none, []⟩,
 ⟨(some 76), .p (.move (.t 9)), (some (75, false)), none, []⟩,
 ⟨(some 77), .p (.bin .eql (.t 76) (.c (.int .i64 2))), (some (75, false)), none, []⟩,
 ⟨(some 78), .p (.move (.t 77)), (some (75, false)), none, []⟩,
 ⟨(some 79), .p (.move (.t 5)), (some (78, true)), none, []⟩,
 ⟨(some 80), .p (.lenS (.t 79)), (some (78, true)), none, []⟩,
 ⟨(some 81), .p (.bin .eql (.t 80) (.c (.int .i64 0))), (some (78, true)), none, []⟩,
 ⟨(some 82), .p (.pick (.t 78) (.t 81) (.c (.bool false))), (some (75, false)), none, []⟩,
 ⟨(some 83), .p (.pick (.t 75) (.c (.bool true)) (.t 82)), none, none, []⟩])
 (.cond (.t 83) (.seq (.region 0 [⟨(some 4), .p (.move (.c (.bool false))), none, none, []⟩])
 (.ret))
 (.skip)))
 (.seq (.seq (.region 0 [⟨(some 11), .p (.move (.c (.int .i64 0))), none, none, []⟩])
 (.block 0 (.loop (.seq (.seq (.region 0 [⟨(some 84), .p (.move (.t 11)), none, none, []⟩,
 ⟨(some 85), .p (.fieldAddr 5 (.t 2)), none, none, []⟩,
 ⟨(some 86), .load false 1 (.t 85), none, none, []⟩,
 ⟨(some 87), .p (.lenS (.t 86)), none, none, []⟩,
 ⟨(some 88), .p (.bin .lss (.t 84) (.t 87)), none, none, []⟩])
 (.cond (.t 88) (.skip)
 (.exit 0)))
 (.seq (.block 1 (.seq (.region 0 [⟨(some 92), .load true 7 (.t 2), none, none, []⟩,
 ⟨(some 93), .p (.move (.t 11)), none, none, []⟩,
 ⟨(some 94), .call 1 37 [(.t 92), (.t 93)], none, none, []⟩,
 ⟨(some 91), .p (.move (.t 94)), none, none, []⟩,
 ⟨(some 95), .p (.extract (.t 91) 0), none, none, []⟩,
 ⟨(some 96), .p (.extract (.t 91) 1), none, none, []⟩,
 ⟨(some 12), .p (.move (.t 95)), none, none, []⟩,
 ⟨(some 13), .p (.move (.t 96)), none, none, []⟩])
 (.seq (.region 0 [⟨(some 98), .load true 7 (.t 2), none, none, []⟩,
 ⟨(some 99), .p (.move (.t 11)), none, none, []⟩,
 ⟨(some 100), .call 1 41 [(.t 98), (.t 99)], none, none, []⟩,
 ⟨(some 97), .p (.move (.t 100)), none, none, []⟩,
 ⟨(some 101), .p (.extract (.t 97) 0), none, none, []⟩,
 ⟨(some 102), .p (.extract (.t 97) 1), none, none, []⟩,
 ⟨(some 14), .alloc [.int .i64 0, .int .i64 0], none, none, []⟩,
 ⟨none, .store 2 (.t 14) (.t 101), none, none, []⟩,
 ⟨(some 15), .p (.move (.t 102)), none, none, []⟩])
 (.seq (.region 0 [⟨(some 103), .load true 7 (.t 2), none, none, []⟩,
 ⟨(some 104), .load true 3 (.t 3), none, none, []⟩,
 ⟨(some 105), .p (.move (.t 11)), none, none, []⟩,
 ⟨(some 106), .call 1 55 [(.t 103), (.t 104), (.t 105)], none, none, []⟩,
 ⟨(some 16), .p (.move (.t 106)), none, none, []⟩])
 (.seq (.region 0 [⟨(some 107), .p (.move (.t 7)), none, none, []⟩,
 ⟨(some 108), .p (.move (.t 11)), none, none, []⟩,
 ⟨(some 109), .call 1 56 [(.t 107), (.t 108)], none, none, []⟩,
 ⟨(some 17), .p (.move (.t 109)), none, none, []⟩])
 (.seq (.region 0 [⟨(some 110), .p (.move (.t 13)), none, none, []⟩,
 ⟨(some 111), .p (.bin .neq (.t 110) (.c (.int .i64 0))), none, none, []⟩,
 ⟨(some 112), .p (.move (.t 111)), none, none, []⟩,
 ⟨(some 113), .p (.move (.t 15)), (some (112, false)), none, []⟩,
 ⟨(some 114), .p (.bin .neq (.t 113) (.c (.int .i64 0))), (some (112, false)), none, []⟩,
 ⟨(some 115), .p (.pick (.t 112) (.c (.bool true)) (.t 114)), none, none, []⟩,
 ⟨(some 116), .p (.move (.t 115)), none, none, []⟩,
 ⟨(some 117), .p (.move (.t 12)), (some (116, false)), none, []⟩,
 ⟨(some 118), .p (.bin .eql (.t 117) (.c (.int .i64 1))), (some (116, false)), none, []⟩,
 ⟨(some 119), .p (.move (.t 118)), (some (116, false)), none, []⟩,
 ⟨(some 120), .p (.move (.t 17)), (some (119, true)), none, []⟩,
 ⟨(some 121), .p (.un .not (.t 120)), (some (119, true)), none, []⟩,
 ⟨(some 122), .p (.pick (.t 119) (.t 121) (.c (.bool false))), (some (116, false)), none, []⟩,
 ⟨(some 123), .p (.pick (.t 116) (.c (.bool true)) (.t 122)), none, none, []⟩,
 ⟨(some 124), .p (.move (.t 123)), none, none, []⟩,
 ⟨(some 125), .p (.move (.t 12)), (some (124, false)), none, []⟩,
 ⟨(some 126), .p (.bin .eql (.t 125) (.c (.int .i64 2))), (some (124, false)), none, []⟩,
 ⟨(some 127), .p (.move (.t 126)), (some (124, false)), none, []⟩,
 ⟨(some 128), .p (.move (.t 17)), (some (127, true)), none, []⟩,
 ⟨(some 129), .p (.pick (.t 127) (.t 128) (.c (.bool false))), (some (124, false)), none, []⟩,
 ⟨(some 130), .p (.pick (.t 124) (.c (.bool true)) (.t 129)), none, none, []⟩,
 ⟨(some 131), .p (.move (.t 130)), none, none, []⟩,
 ⟨(some 132), .p (.move (.t 16)), (some (131, false)), none, []⟩,
 ⟨(some 133), .p (.fieldAddr 0 (.t 14)), (some (131, false)), none, []⟩,
 ⟨(some 134), .load false 1 (.t 133), (some (131, false)), none, []⟩,
 ⟨(some 135), .p (.bin .lss (.t 132) (.t 134)), (some (131, false)), none, []⟩,
 ⟨(some 136), .p (.pick (.t 131) (.c (.bool true)) (.t 135)), none, none, []⟩,
 ⟨(some 137), .p (.move (.t 136)), none, none, []⟩,
 ⟨(some 138), .p (.move (.t 16)), (some (137, false)), none, []⟩,
 ⟨(some 139), .p (.fieldAddr 1 (.t 14)), (some (137, false)), none, []⟩,
 ⟨(some 140), .load false 1 (.t 139), (some (137, false)), none, []⟩,
 ⟨(some 141), .p (.bin .gtr (.t 138) (.t 140)), (some (137, false)), none, []⟩,
 ⟨(some 142), .p (.pick (.t 137) (.c (.bool true)) (.t 141)), none, none, []⟩,
 ⟨(some 143), .p (.move (.t 142)), none, none, []⟩,
 ⟨(some 144), .p (.move (.t 5)), (some (143, false)), none, []⟩,
 ⟨(some 145), .p (.move (.t 11)), (some (143, false)), none, []⟩,
 ⟨(some 146), .call 1 56 [(.t 144), (.t 145)], (some (143, false)), none, []⟩,
 ⟨(some 147), .p (.move (.t 16)), (some (143, false)), none, []⟩,
 ⟨(some 148), .p (.bin .lss (.t 147) (.c (.int .i64 0))), (some (143, false)), none, []⟩,
 ⟨(some 149), .p (.eqB true (.t 146) (.t 148)), (some (143, false)), none, []⟩,
 ⟨(some 150), .p (.pick (.t 143) (.c (.bool true)) (.t 149)), none, none, []⟩])
 (.cond (.t 150) (.seq (.region 0 [⟨(some 4), .p (.move (.c (.bool false))), none, none, []⟩])
 (.ret))
 (.skip))))))))
 (.region 0 [⟨(some 89), .p (.move (.t 11)), none, none, []⟩,
 ⟨(some 90), .p (.bin .add (.t 89) (.c (.int .i64 1))), none, none, []⟩,
 ⟨(some 11), .p (.move (.t 90)), none, none, []⟩]))))))
 (.seq (.region 0 [⟨(some 151), .call 1 16 [], none, none, []⟩,
 ⟨(some 4), .p (.move (.t 151)), none, none, []⟩])
 (.ret))))))))⟩
/-- almadraba/almadrabalaw02.AnchorsCalmer -/
def f9 : AFn := ⟨152, [.tmp 6],
 .seq (.region 0 [⟨(some 3), .box (.t 0), none, none, []⟩,
 ⟨(some 4), .box (.t 1), none, none, []⟩,
 ⟨(some 5), .box (.t 2), none, none, []⟩,
 ⟨(some 6), .p (.move (.c (.bool false))), none, none, []⟩])
 (.seq (.seq (.region 0 [⟨(some 16), .load true 7 (.t 3), none, none, []⟩,
 ⟨(some 17), .load true 3 (.t 4), none, none, []⟩,
 ⟨(some 18), .call 1 51 [(.t 16), (.t 17)], none, none, []⟩,
 ⟨(some 19), .p (.un .not (.t 18)), none, none, []⟩,
 ⟨(some 20), .p (.move (.t 19)), none, none, []⟩,
 ⟨(some 21), .load true 7 (.t 3), (some (20, false)), none, []⟩,
 ⟨(some 22), .load true 3 (.t 5), (some (20, false)), none, []⟩,
 ⟨(some 23), .call 1 51 [(.t 21), (.t 22)], (some (20, false)), none, []⟩,
 ⟨(some 24), .p (.un .not (.t 23)), (some (20, false)), none, []⟩,
 ⟨(some 25), .p (.pick (.t 20) (.c (.bool true)) (.t 24)), none, none, []⟩,
 ⟨(some 26), .p (.move (.t 25)), none, none, []⟩,
 ⟨(some 27), .p (.fieldAddr 0 (.t 5)), (some (26, false)), none, []⟩,
 ⟨(some 28), .load false 1 (.t 27), (some (26, false)), none, []⟩,
 ⟨(some 29), .p (.fieldAddr 0 (.t 4)), (some (26, false)), none, []⟩,
 ⟨(some 30), .load false 1 (.t 29), (some (26, false)), none, []⟩,
 ⟨(some 31), .p (.bin .gtr (.t 28) (.t 30)), (some (26, false)), none, []⟩,
 ⟨(some 32), .p (.pick (.t 26) (.c (.bool true)) (.t 31)), none, none, []⟩,
 ⟨(some 33), .p (.move (.t 32)), none, none, []⟩,
 ⟨(some 34), .p (.fieldAddr 1 (.t 5)), (some (33, false)), none, []⟩,
 ⟨(some 35), .load false 1 (.t 34), (some (33, false)), none, []⟩,
 ⟨(some 36), .p (.fieldAddr 1 (.t 4)), (some (33, false)), none, []⟩,
 ⟨(some 37), .load false 1 (.t 36), (some (33, false)), none, []⟩,
 ⟨(some 38), .p (.bin .gtr (.t 35) (.t 37)), (some (33, false)), none, []⟩,
 ⟨(some 39), .p (.pick (.t 33) (.c (.bool true)) (.t 38)), none, none, []⟩])
 (.cond (.t 39) (.seq (.region 0 [⟨(some 40), .call 1 16 [], none, none, []⟩,
 ⟨(some 6), .p (.move (.t 40)), none, none, []⟩])
 (.ret))
 (.skip)))
 (.seq (.seq (.region 0 [⟨(some 7), .p (.move (.c (.int .i64 0))), none, none, []⟩])
 (.block 0 (.loop (.seq (.seq (.region 0 [⟨(some 41), .p (.move (.t 7)), none, none, []⟩,
 ⟨(some 42), .p (.fieldAddr 2 (.t 4)), none, none, []⟩,
 ⟨(some 43), .load false 1 (.t 42), none, none, []⟩,
 ⟨(some 44), .p (.lenS (.t 43)), none, none, []⟩,
 ⟨(some 45), .p (.bin .lss (.t 41) (.t 44)), none, none, []⟩])
 (.cond (.t 45) (.skip)
 (.exit 0)))
 (.seq (.block 1 (.seq (.region 0 [⟨(some 48), .p (.fieldAddr 2 (.t 5)), none, none, []⟩,
 ⟨(some 49), .load false 1 (.t 48), none, none, []⟩,
 ⟨(some 50), .p (.move (.t 7)), none, none, []⟩,
 ⟨(some 51), .p (.idxSl 1 (.t 49) (.t 50)), none, none, []⟩,
 ⟨(some 52), .load false 1 (.t 51), none, none, []⟩,
 ⟨(some 53), .p (.fieldAddr 2 (.t 4)), none, none, []⟩,
 ⟨(some 54), .load false 1 (.t 53), none, none, []⟩,
 ⟨(some 55), .p (.move (.t 7)), none, none, []⟩,
 ⟨(some 56), .p (.idxSl 1 (.t 54) (.t 55)), none, none, []⟩,
 ⟨(some 57), .load false 1 (.t 56), none, none, []⟩,
 ⟨(some 58), .p (.bin .lss (.t 52) (.t 57)), none, none, []⟩])
 (.cond (.t 58) (.seq (.region 0 [⟨(some 59), .call 1 16 [], none, none, []⟩,
 ⟨(some 6), .p (.move (.t 59)), none, none, []⟩])
 (.ret))
 (.skip))))
 (.region 0 [⟨(some 46), .p (.move (.t 7)), none, none, []⟩,
 ⟨(some 47), .p (.bin .add (.t 46) (.c (.int .i64 1))), none, none, []⟩,
 ⟨(some 7), .p (.move (.t 47)), none, none, []⟩]))))))
 (.seq (.region 0 [⟨(some 61), .load true 7 (.t 3), none, none, []⟩,
 ⟨(some 62), .load true 3 (.t 4), none, none, []⟩,
 ⟨(some 63), .call 1 52 [(.t 61), (.t 62)], none, none, []⟩,
 ⟨(some 60), .p (.move (.t 63)), none, none, []⟩,
 ⟨(some 64), .p (.extract (.t 60) 0), none, none, []⟩,
 ⟨(some 65), .p (.extract (.t 60) 1), none, none, []⟩,
 ⟨(some 8), .p (.move (.t 64)), none, none, []⟩,
 ⟨(some 9), .p (.move (.t 65)), none, none, []⟩])
 (.seq (.region 0 [⟨(some 67), .load true 7 (.t 3), none, none, []⟩,
 ⟨(some 68), .load true 3 (.t 5), none, none, []⟩,
 ⟨(some 69), .call 1 52 [(.t 67), (.t 68)], none, none, []⟩,
 ⟨(some 66), .p (.move (.t 69)), none, none, []⟩,
 ⟨(some 70), .p (.extract (.t 66) 0), none, none, []⟩,
 ⟨(some 71), .p (.extract (.t 66) 1), none, none, []⟩,
 ⟨(some 10), .p (.move (.t 70)), none, none, []⟩,
 ⟨(some 11), .p (.move (.t 71)), none, none, []⟩])
 (.seq (.region 0 [⟨(some 73), .load true 7 (.t 3), none, none, []⟩,
 ⟨(some 74), .call 1 43 [(.t 73)], none, none, []⟩,
 ⟨(some 72), .p (.move (.t 74)), none, none, []⟩,
 ⟨(some 75), .p (.extract (.t 72) 0), none, none, []⟩,
 ⟨(some 76), .p (.extract (.t 72) 1), none, none, []⟩,
 ⟨(some 12), .p (.move (.t 75)), none, none, []⟩,
 ⟨(some 13), .p (.move (.t 76)), none, none, []⟩])
 (.seq (.region 0 [⟨(some 78), .load true 7 (.t 3), none, none, []⟩,
 ⟨(some 79), .call 1 45 [(.t 78)], none, none, []⟩,
 ⟨(some 77), .p (.move (.t 79)), none, none, []⟩,
 ⟨(some 80), .p (.extract (.t 77) 0), none, none, []⟩,
 ⟨(some 81), .p (.extract (.t 77) 1), none, none, []⟩,
 ⟨(some 14), .p (.move (.t 80)), none, none, []⟩,
 ⟨(some 15), .p (.move (.t 81)), none, none, []⟩])
 (.seq (.seq (.region 0 [⟨(some 82), .p (.move (.t 9)), none, none, []⟩,
 ⟨(some 83), .p (.un .not (.t 82)), none, none, []⟩,
 ⟨(some 84), .p (.move (.t 83)), none, none, []⟩,
 ⟨(some 85), .p (.move (.t 11)), (some (84, false)), none, []⟩,
 ⟨(some 86), .p (.un .not (.t 85)), (some (84, false)), none, []⟩,
 ⟨(some 87), .p (.pick (.t 84) (.c (.bool true)) (.t 86)), none, none, []⟩,
 ⟨(some 88), .p (.move (.t 87)), none, none, []⟩,
 ⟨(some 89), .p (.move (.t 10)), (some (88, false)), none, []⟩,
 ⟨(some 90), .p (.move (.t 8)), (some (88, false)), none, []⟩,
 ⟨(some 91), .call 1 54 [(.t 89), (.t 90)], (some (88, false)), none, []⟩,
 ⟨(some 92), .p (.un .not (.t 91)), (some (88, false)), none, []⟩,
 ⟨(some 93), .p (.pick (.t 88) (.c (.bool true)) (.t 92)), none, none, []⟩,
 ⟨(some 94), .p (.move (.t 93)), none, none, []⟩,
 ⟨(some 95), .p (.move (.t 13)), (some (94, false)), none, []⟩,
 ⟨(some 96), .p (.bin .neq (.t 95) (.c (.int .i64 0))), (some (94, false)), none, []⟩,
 ⟨(some 97), .p (.move (.t 96)), (some (94, false)), none, []⟩,
 ⟨(some 98), .p (.move (.t 13)), (some (97, true)), none, []⟩,
 ⟨(some 99), .p (.bin .neq (.t 98) (.c (.int .i64 3))), (some (97, true)), none, []⟩,
 ⟨(some 100), .p (.pick (.t 97) (.t 99) (.c (.bool false))), (some (94, false)), none, []⟩,
 ⟨(some 101), .p (.pick (.t 94) (.c (.bool true)) (.t 100)), none, none, []⟩,
 ⟨(some 102), .p (.move (.t 101)), none, none, []⟩,
 ⟨(some 103), .p (.move (.t 15)), (some (102, false)), none, []⟩,
 ⟨(some 104), .p (.bin .neq (.t 103) (.c (.int .i64 0))), (some (102, false)), none, []⟩,
 ⟨(some 105), .p (.move (.t 104)), (some (102, false)), none, []⟩,
 ⟨(some 106), .p (.move (.t 15)), (some (105, true)), none, []⟩,
 ⟨(some 107), .p (.bin .neq (.t 106) (.c (.int .i64 3))), (some (105, true)), none, []⟩,
 ⟨(some 108), .p (.pick (.t 105) (.t 107) (.c (.bool false))), (some (102, false)), none, []⟩,
 ⟨(some 109), .p (.pick (.t 102) (.c (.bool true)) (.t 108)), none, none, []⟩,
 ⟨(some 110), .p (.move (.t 109)), none, none, []⟩,
 ⟨(some 111), .p (.move (.t 15)), (some (110, false)), none, []⟩,
 ⟨(some 112), .p (.bin .eql (.t 111) (.c (.int .i64 0))), (some (110, false)), none, []⟩,
 ⟨(some 113), .p (.move (.t 112)), (some (110, false)), none, []⟩,
 ⟨(some 114), .p (.move (.t 13)), (some (113, true)), none, []⟩,
 ⟨(some 115), .p (.bin .neq (.t 114) (.c (.int .i64 0))), (some (113, true)), none, []⟩,
 ⟨(some 116), .p (.move (.t 115)), (some (113, true)), none, []⟩,
 ⟨(some 117), .p (.move (.t 12)), (some (116, false)), none, []⟩,
 ⟨(some 118), .p (.move (.t 14)), (some (116, false)), none, []⟩,
 ⟨(some 119), .p (.bin .gtr (.t 117) (.t 118)), (some (116, false)), none, []⟩,
 ⟨(some 120), .p (.pick (.t 116) (.c (.bool true)) (.t 119)), (some (113, true)), none, []⟩,
 ⟨(some 121), .p (.pick (.t 113) (.t 120) (.c (.bool false))), (some (110, false)), none, []⟩,
 ⟨(some 122), .p (.pick (.t 110) (.c (.bool true)) (.t 121)), none, none, []⟩])
 (.cond (.t 122) (.seq (.region 0 [⟨(some 6), .p (.move (.c (.bool false))), none, none, []⟩])
 (.ret))
 (.skip)))
 (.seq (.seq (.region 0 [⟨(some 123), .p (.move (.t 13)), none, none, []⟩,
 ⟨(some 124), .p (.bin .neq (.t 123) (.c (.int .i64 0))), none, none, []⟩,
 ⟨(some 125), .p (.move (.t 124)), none, none, []⟩,
 ⟨(some 126), .p (.fieldAddr 0 (.t 4)), (some (125, false)), none, []⟩,
 ⟨(some 127), .load false 1 (.t 126), (some (125, false)), none, []⟩,
 ⟨(some 128), .p (.move (.t 12)), (some (125, false)), none, []⟩,
 ⟨(some 129), .p (.bin .lss (.t 127) (.t 128)), (some (125, false)), none, []⟩,
 ⟨(some 130), .p (.pick (.t 125) (.c (.bool true)) (.t 129)), none, none, []⟩,
 ⟨(some 131), .p (.move (.t 130)), none, none, []⟩,
 ⟨(some 132), .p (.move (.t 8)), (some (131, true)), none, []⟩,
 ⟨(some 133), .p (.lenS (.t 132)), (some (131, true)), none, []⟩,
 ⟨(some 134), .p (.bin .gtr (.t 133) (.c (.int .i64 0))), (some (131, true)), none, []⟩,
 ⟨(some 135), .p (.pick (.t 131) (.t 134) (.c (.bool false))), none, none, []⟩])
 (.cond (.t 135) (.seq (.region 0 [⟨(some 6), .p (.move (.c (.bool false))), none, none, []⟩])
 (.ret))
 (.skip)))
 (.seq (.region 0 [⟨(some 136), .p (.move (.t 15)), none, none, []⟩,
 ⟨(some 137), .p (.bin .neq (.t 136) (.c (.int .i64 0))), none, none, []⟩,
 ⟨(some 138), .p (.move (.t 137)), none, none, []⟩,
 ⟨(some 139), .p (.fieldAddr 0 (.t 4)), (some (138, false)), none, []⟩,
 ⟨(some 140), .load false 1 (.t 139), (some (138, false)), none, []⟩,
 ⟨(some 141), .p (.move (.t 14)), (some (138, false)), none, []⟩,
 ⟨(some 142), .p (.bin .lss (.t 140) (.t 141)), (some (138, false)), none, []⟩,
 ⟨(some 143), .p (.pick (.t 138) (.c (.bool true)) (.t 142)), none, none, []⟩,
 ⟨(some 144), .p (.move (.t 143)), none, none, []⟩,
 ⟨(some 145), .p (.move (.t 8)), (some (144, false)), none, []⟩,
 ⟨(some 146), .p (.lenS (.t 145)), (some (144, false)), none, []⟩,
 ⟨(some 147), .p (.bin .gtr (.t 146) (.c (.int .i64 0))), (some (144, false)), none, []⟩,
 ⟨(some 148), .p (.pick (.t 144) (.c (.bool true)) (.t 147)), none, none, []⟩,
 ⟨(some 149), .p (.move (.t 148)), none, none, []⟩,
 ⟨(some 150), .call 1 16 [], (some (149, true)), none, []⟩,
 ⟨(some 151), .p (.pick (.t 149) (.t 150) (.c (.bool false))), none, none, []⟩,
 ⟨(some 6), .p (.move (.t 151)), none, none, []⟩])
 (.ret))))))))))⟩
/-- almadraba/almadrabalaw02.AnchorsHeavier -/
def f10 : AFn := ⟨167, [.tmp 6],
 .seq (.region 0 [⟨(some 3), .box (.t 0), none, none, []⟩,
 ⟨(some 4), .box (.t 1), none, none, []⟩,
 ⟨(some 5), .box (.t 2), none, none, []⟩,
 ⟨(some 6), .p (.move (.c (.bool false))), none, none, []⟩])
 (.seq (.seq (.region 0 [⟨(some 25), .load true 7 (.t 3), none, none, []⟩,
 ⟨(some 26), .load true 3 (.t 4), none, none, []⟩,
 ⟨(some 27), .call 1 51 [(.t 25), (.t 26)], none, none, []⟩,
 ⟨(some 28), .p (.un .not (.t 27)), none, none, []⟩,
 ⟨(some 29), .p (.move (.t 28)), none, none, []⟩,
 ⟨(some 30), .load true 7 (.t 3), (some (29, false)), none, []⟩,
 ⟨(some 31), .p (.fieldAddr 0 (.t 5)), (some (29, false)), none, []⟩,
 ⟨(some 32), .load false 1 (.t 31), (some (29, false)), none, []⟩,
 ⟨(some 33), .call 1 57 [(.t 30), (.t 32)], (some (29, false)), none, []⟩,
 ⟨(some 34), .p (.un .not (.t 33)), (some (29, false)), none, []⟩,
 ⟨(some 35), .p (.pick (.t 29) (.c (.bool true)) (.t 34)), none, none, []⟩,
 ⟨(some 36), .p (.move (.t 35)), none, none, []⟩,
 ⟨(some 37), .p (.fieldAddr 1 (.t 5)), (some (36, false)), none, []⟩,
 ⟨(some 38), .load false 1 (.t 37), (some (36, false)), none, []⟩,
 ⟨(some 39), .p (.fieldAddr 5 (.t 3)), (some (36, false)), none, []⟩,
 ⟨(some 40), .load false 1 (.t 39), (some (36, false)), none, []⟩,
 ⟨(some 41), .p (.fieldAddr 0 (.t 5)), (some (36, false)), none, []⟩,
 ⟨(some 42), .load false 1 (.t 41), (some (36, false)), none, []⟩,
 ⟨(some 43), .p (.idxSl 2 (.t 40) (.t 42)), (some (36, false)), none, []⟩,
 ⟨(some 44), .p (.fieldAddr 0 (.t 43)), (some (36, false)), none, []⟩,
 ⟨(some 45), .load false 1 (.t 44), (some (36, false)), none, []⟩,
 ⟨(some 46), .p (.bin .sub (.c (.int .i64 20)) (.t 45)), (some (36, false)), none, []⟩,
 ⟨(some 47), .call 1 58 [(.t 38), (.c (.int .i64 0)), (.t 46)], (some (36, false)), none, []⟩,
 ⟨(some 48), .p (.un .not (.t 47)), (some (36, false)), none, []⟩,
 ⟨(some 49), .p (.pick (.t 36) (.c (.bool true)) (.t 48)), none, none, []⟩])
 (.cond (.t 49) (.seq (.region 0 [⟨(some 50), .call 1 16 [], none, none, []⟩,
 ⟨(some 6), .p (.move (.t 50)), none, none, []⟩])
 (.ret))
 (.skip)))
 (.seq (.region 0 [⟨(some 51), .load true 7 (.t 3), none, none, []⟩,
 ⟨(some 52), .p (.fieldAddr 0 (.t 5)), none, none, []⟩,
 ⟨(some 53), .load false 1 (.t 52), none, none, []⟩,
 ⟨(some 54), .p (.fieldAddr 1 (.t 5)), none, none, []⟩,
 ⟨(some 55), .load false 1 (.t 54), none, none, []⟩,
 ⟨(some 56), .call 1 59 [(.t 51), (.t 53), (.t 55)], none, none, []⟩,
 ⟨(some 7), .alloc [.int .i64 0, .int .i64 0, .int .i64 0, .int .i64 0, .nils, .nils, .nils], none, none, []⟩,
 ⟨none, .store 7 (.t 7) (.t 56), none, none, []⟩])
 (.seq (.region 0 [⟨(some 58), .load true 7 (.t 3), none, none, []⟩,
 ⟨(some 59), .load true 3 (.t 4), none, none, []⟩,
 ⟨(some 60), .call 1 52 [(.t 58), (.t 59)], none, none, []⟩,
 ⟨(some 57), .p (.move (.t 60)), none, none, []⟩,
 ⟨(some 61), .p (.extract (.t 57) 0), none, none, []⟩,
 ⟨(some 62), .p (.extract (.t 57) 1), none, none, []⟩,
 ⟨(some 8), .p (.move (.t 61)), none, none, []⟩,
 ⟨(some 9), .p (.move (.t 62)), none, none, []⟩])
 (.seq (.region 0 [⟨(some 64), .load true 7 (.t 7), none, none, []⟩,
 ⟨(some 65), .load true 3 (.t 4), none, none, []⟩,
 ⟨(some 66), .call 1 52 [(.t 64), (.t 65)], none, none, []⟩,
 ⟨(some 63), .p (.move (.t 66)), none, none, []⟩,
 ⟨(some 67), .p (.extract (.t 63) 0), none, none, []⟩,
 ⟨(some 68), .p (.extract (.t 63) 1), none, none, []⟩,
 ⟨(some 10), .p (.move (.t 67)), none, none, []⟩,
 ⟨(some 11), .p (.move (.t 68)), none, none, []⟩])
 (.seq (.seq (.region 0 [⟨(some 69), .p (.move (.t 9)), none, none, []⟩,
 ⟨(some 70), .p (.un .not (.t 69)), none, none, []⟩,
 ⟨(some 71), .p (.move (.t 70)), none, none, []⟩,
 ⟨(some 72), .p (.move (.t 11)), (some (71, false)), none, []⟩,
 ⟨(some 73), .p (.un .not (.t 72)), (some (71, false)), none, []⟩,
 ⟨(some 74), .p (.pick (.t 71) (.c (.bool true)) (.t 73)), none, none, []⟩,
 ⟨(some 75), .p (.move (.t 74)), none, none, []⟩,
 ⟨(some 76), .p (.move (.t 10)), (some (75, false)), none, []⟩,
 ⟨(some 77), .p (.move (.t 8)), (some (75, false)), none, []⟩,
 ⟨(some 78), .call 1 54 [(.t 76), (.t 77)], (some (75, false)), none, []⟩,
 ⟨(some 79), .p (.un .not (.t 78)), (some (75, false)), none, []⟩,
 ⟨(some 80), .p (.pick (.t 75) (.c (.bool true)) (.t 79)), none, none, []⟩])
 (.cond (.t 80) (.seq (.region 0 [⟨(some 6), .p (.move (.c (.bool false))), none, none, []⟩])
 (.ret))
 (.skip)))
 (.seq (.region 0 [⟨(some 82), .load true 7 (.t 3), none, none, []⟩,
 ⟨(some 83), .call 1 43 [(.t 82)], none, none, []⟩,
 ⟨(some 81), .p (.move (.t 83)), none, none, []⟩,
 ⟨(some 84), .p (.extract (.t 81) 0), none, none, []⟩,
 ⟨(some 85), .p (.extract (.t 81) 1), none, none, []⟩,
 ⟨(some 12), .p (.move (.t 84)), none, none, []⟩,
 ⟨(some 13), .p (.move (.t 85)), none, none, []⟩])
 (.seq (.region 0 [⟨(some 87), .load true 7 (.t 7), none, none, []⟩,
 ⟨(some 88), .call 1 43 [(.t 87)], none, none, []⟩,
 ⟨(some 86), .p (.move (.t 88)), none, none, []⟩,
 ⟨(some 89), .p (.extract (.t 86) 0), none, none, []⟩,
 ⟨(some 90), .p (.extract (.t 86) 1), none, none, []⟩,
 ⟨(some 14), .p (.move (.t 89)), none, none, []⟩,
 ⟨(some 15), .p (.move (.t 90)), none, none, []⟩])
 (.seq (.region 0 [⟨(some 92), .load true 7 (.t 3), none, none, []⟩,
 ⟨(some 93), .call 1 45 [(.t 92)], none, none, []⟩,
 ⟨(some 91), .p (.move (.t 93)), none, none, []⟩,
 ⟨(some 94), .p (.extract (.t 91) 0), none, none, []⟩,
 ⟨(some 95), .p (.extract (.t 91) 1), none, none, []⟩,
 ⟨(some 16), .p (.move (.t 94)), none, none, []⟩,
 ⟨(some 17), .p (.move (.t 95)), none, none, []⟩])
 (.seq (.region 0 [⟨(some 97), .load true 7 (.t 7), none, none, []⟩,
 ⟨(some 98), .call 1 45 [(.t 97)], none, none, []⟩,
 ⟨(some 96), .p (.move (.t 98)), none, none, []⟩,
 ⟨(some 99), .p (.extract (.t 96) 0), none, none, []⟩,
 ⟨(some 100), .p (.extract (.t 96) 1), none, none, []⟩,
 ⟨(some 18), .p (.move (.t 99)), none, none, []⟩,
 ⟨(some 19), .p (.move (.t 100)), none, none, []⟩])
 (.seq (.seq (.region 0 [⟨(some 101), .p (.move (.t 15)), none, none, []⟩,
 ⟨(some 102), .p (.bin .eql (.t 101) (.c (.int .i64 0))), none, none, []⟩,
 ⟨(some 103), .p (.move (.t 102)), none, none, []⟩,
 ⟨(some 104), .p (.move (.t 13)), (some (103, true)), none, []⟩,
 ⟨(some 105), .p (.bin .neq (.t 104) (.c (.int .i64 0))), (some (103, true)), none, []⟩,
 ⟨(some 106), .p (.move (.t 105)), (some (103, true)), none, []⟩,
 ⟨(some 107), .p (.move (.t 14)), (some (106, false)), none, []⟩,
 ⟨(some 108), .p (.move (.t 12)), (some (106, false)), none, []⟩,
 ⟨(some 109), .p (.bin .lss (.t 107) (.t 108)), (some (106, false)), none, []⟩,
 ⟨(some 110), .p (.pick (.t 106) (.c (.bool true)) (.t 109)), (some (103, true)), none, []⟩,
 ⟨(some 111), .p (.pick (.t 103) (.t 110) (.c (.bool false))), none, none, []⟩,
 ⟨(some 112), .p (.move (.t 111)), none, none, []⟩,
 ⟨(some 113), .p (.move (.t 19)), (some (112, false)), none, []⟩,
 ⟨(some 114), .p (.bin .eql (.t 113) (.c (.int .i64 0))), (some (112, false)), none, []⟩,
 ⟨(some 115), .p (.move (.t 114)), (some (112, false)), none, []⟩,
 ⟨(some 116), .p (.move (.t 17)), (some (115, true)), none, []⟩,
 ⟨(some 117), .p (.bin .neq (.t 116) (.c (.int .i64 0))), (some (115, true)), none, []⟩,
 ⟨(some 118), .p (.move (.t 117)), (some (115, true)), none, []⟩,
 ⟨(some 119), .p (.move (.t 18)), (some (118, false)), none, []⟩,
 ⟨(some 120), .p (.move (.t 16)), (some (118, false)), none, []⟩,
 ⟨(some 121), .p (.bin .lss (.t 119) (.t 120)), (some (118, false)), none, []⟩,
 ⟨(some 122), .p (.pick (.t 118) (.c (.bool true)) (.t 121)), (some (115, true)), none, []⟩,
 ⟨(some 123), .p (.pick (.t 115) (.t 122) (.c (.bool false))), (some (112, false)), none, []⟩,
 ⟨(some 124), .p (.pick (.t 112) (.c (.bool true)) (.t 123)), none, none, []⟩])
 (.cond (.t 124) (.seq (.region 0 [⟨(some 6), .p (.move (.c (.bool false))), none, none, []⟩])
 (.ret))
 (.skip)))
 (.seq (.seq (.region 0 [⟨(some 20), .p (.move (.c (.int .i64 0))), none, none, []⟩])
 (.block 0 (.loop (.seq (.seq (.region 0 [⟨(some 125), .p (.move (.t 20)), none, none, []⟩,
 ⟨(some 126), .p (.fieldAddr 5 (.t 3)), none, none, []⟩,
 ⟨(some 127), .load false 1 (.t 126), none, none, []⟩,
 ⟨(some 128), .p (.lenS (.t 127)), none, none, []⟩,
 ⟨(some 129), .p (.bin .lss (.t 125) (.t 128)), none, none, []⟩])
 (.cond (.t 129) (.skip)
 (.exit 0)))
 (.seq (.block 1 (.seq (.region 0 [⟨(some 133), .load true 7 (.t 3), none, none, []⟩,
 ⟨(some 134), .p (.move (.t 20)), none, none, []⟩,
 ⟨(some 135), .call 1 37 [(.t 133), (.t 134)], none, none, []⟩,
 ⟨(some 132), .p (.move (.t 135)), none, none, []⟩,
 ⟨(some 136), .p (.extract (.t 132) 0), none, none, []⟩,
 ⟨(some 137), .p (.extract (.t 132) 1), none, none, []⟩,
 ⟨(some 21), .p (.move (.t 136)), none, none, []⟩,
 ⟨(some 22), .p (.move (.t 137)), none, none, []⟩])
 (.seq (.region 0 [⟨(some 139), .load true 7 (.t 7), none, none, []⟩,
 ⟨(some 140), .p (.move (.t 20)), none, none, []⟩,
 ⟨(some 141), .call 1 37 [(.t 139), (.t 140)], none, none, []⟩,
 ⟨(some 138), .p (.move (.t 141)), none, none, []⟩,
 ⟨(some 142), .p (.extract (.t 138) 0), none, none, []⟩,
 ⟨(some 143), .p (.extract (.t 138) 1), none, none, []⟩,
 ⟨(some 23), .p (.move (.t 142)), none, none, []⟩,
 ⟨(some 24), .p (.move (.t 143)), none, none, []⟩])
 (.seq (.region 0 [⟨(some 144), .p (.move (.t 22)), none, none, []⟩,
 ⟨(some 145), .p (.bin .neq (.t 144) (.c (.int .i64 0))), none, none, []⟩,
 ⟨(some 146), .p (.move (.t 145)), none, none, []⟩,
 ⟨(some 147), .p (.move (.t 24)), (some (146, false)), none, []⟩,
 ⟨(some 148), .p (.bin .neq (.t 147) (.c (.int .i64 0))), (some (146, false)), none, []⟩,
 ⟨(some 149), .p (.pick (.t 146) (.c (.bool true)) (.t 148)), none, none, []⟩,
 ⟨(some 150), .p (.move (.t 149)), none, none, []⟩,
 ⟨(some 151), .p (.move (.t 23)), (some (150, false)), none, []⟩,
 ⟨(some 152), .p (.bin .eql (.t 151) (.c (.int .i64 1))), (some (150, false)), none, []⟩,
 ⟨(some 153), .p (.move (.t 152)), (some (150, false)), none, []⟩,
 ⟨(some 154), .p (.move (.t 21)), (some (153, true)), none, []⟩,
 ⟨(some 155), .p (.bin .neq (.t 154) (.c (.int .i64 1))), (some (153, true)), none, []⟩,
 ⟨(some 156), .p (.pick (.t 153) (.t 155) (.c (.bool false))), (some (150, false)), none, []⟩,
 ⟨(some 157), .p (.pick (.t 150) (.c (.bool true)) (.t 156)), none, none, []⟩,
 ⟨(some 158), .p (.move (.t 157)), none, none, []⟩,
 ⟨(some 159), .p (.move (.t 21)), (some (158, false)), none, []⟩,
 ⟨(some 160), .p (.bin .eql (.t 159) (.c (.int .i64 2))), (some (158, false)), none, []⟩,
 ⟨(some 161), .p (.move (.t 160)), (some (158, false)), none, []⟩,
 ⟨(some 162), .p (.move (.t 23)), (some (161, true)), none, []⟩,
 ⟨(some 163), .p (.bin .neq (.t 162) (.c (.int .i64 2))), (some (161, true)), none, []⟩,
 ⟨(some 164), .p (.pick (.t 161) (.t 163) (.c (.bool false))), (some (158, false)), none, []⟩,
 ⟨(some 165), .p (.pick (.t 158) (.c (.bool true)) (.t 164)), none, none, []⟩])
 (.cond (.t 165) (.seq (.region 0 [⟨(some 6), .p (.move (.c (.bool false))), none, none, []⟩])
 (.ret))
 (.skip))))))
 (.region 0 [⟨(some 130), .p (.move (.t 20)), none, none, []⟩,
 ⟨(some 131), .p (.bin .add (.t 130) (.c (.int .i64 1))), none, none, []⟩,
 ⟨(some 20), .p (.move (.t 131)), none, none, []⟩]))))))
 (.seq (.region 0 [⟨(some 166), .call 1 16 [], none, none, []⟩,
 ⟨(some 6), .p (.move (.t 166)), none, none, []⟩])
 (.ret)))))))))))))⟩
/-- almadraba/almadrabalaw02.AnchorsPulled -/
def f11 : AFn := ⟨136, [.tmp 6],
 .seq (.region 0 [⟨(some 3), .box (.t 0), none, none, []⟩,
 ⟨(some 4), .box (.t 1), none, none, []⟩,
 ⟨(some 6), .p (.move (.c (.bool false))), none, none, []⟩])
 (.seq (.seq (.region 0 [⟨(some 15), .load true 7 (.t 3), none, none, []⟩,
 ⟨(some 16), .load true 3 (.t 4), none, none, []⟩,
 ⟨(some 17), .call 1 51 [(.t 15), (.t 16)], none, none, []⟩,
 ⟨(some 18), .p (.un .not (.t 17)), none, none, []⟩,
 ⟨(some 19), .p (.move (.t 18)), none, none, []⟩,
 ⟨(some 20), .load true 7 (.t 3), (some (19, false)), none, []⟩,
 ⟨(some 21), .p (.move (.t 2)), (some (19, false)), none, []⟩,
 ⟨(some 22), .call 1 57 [(.t 20), (.t 21)], (some (19, false)), none, []⟩,
 ⟨(some 23), .p (.un .not (.t 22)), (some (19, false)), none, []⟩,
 ⟨(some 24), .p (.pick (.t 19) (.c (.bool true)) (.t 23)), none, none, []⟩])
 (.cond (.t 24) (.seq (.region 0 [⟨(some 25), .call 1 16 [], none, none, []⟩,
 ⟨(some 6), .p (.move (.t 25)), none, none, []⟩])
 (.ret))
 (.skip)))
 (.seq (.region 0 [⟨(some 27), .load true 7 (.t 3), none, none, []⟩,
 ⟨(some 28), .load true 3 (.t 4), none, none, []⟩,
 ⟨(some 29), .call 1 52 [(.t 27), (.t 28)], none, none, []⟩,
 ⟨(some 26), .p (.move (.t 29)), none, none, []⟩,
 ⟨(some 30), .p (.extract (.t 26) 0), none, none, []⟩,
 ⟨(some 31), .p (.extract (.t 26) 1), none, none, []⟩,
 ⟨(some 7), .p (.move (.t 30)), none, none, []⟩,
 ⟨(some 8), .p (.move (.t 31)), none, none, []⟩])
 (.seq (.region 0 [⟨(some 33), .load true 7 (.t 3), none, none, []⟩,
 ⟨(some 34), .load true 3 (.t 4), none, none, []⟩,
 ⟨(some 35), .call 1 25 [(.t 34)], none, none, []⟩,
 ⟨(some 36), .p (.move (.t 2)), none, none, []⟩,
 ⟨(some 37), .call 1 31 [(.t 33), (.t 35), (.t 36)], none, none, []⟩,
 ⟨(some 32), .p (.move (.t 37)), none, none, []⟩,
 ⟨(some 38), .p (.extract (.t 32) 0), none, none, []⟩,
 ⟨(some 39), .p (.extract (.t 32) 1), none, none, []⟩,
 ⟨(some 9), .p (.move (.t 38)), none, none, []⟩,
 ⟨(some 10), .p (.move (.t 39)), none, none, []⟩])
 (.seq (.region 0 [⟨(some 41), .load true 7 (.t 3), none, none, []⟩,
 ⟨(some 42), .load true 3 (.t 4), none, none, []⟩,
 ⟨(some 43), .call 1 25 [(.t 42)], none, none, []⟩,
 ⟨(some 44), .call 1 33 [(.t 41), (.t 43)], none, none, []⟩,
 ⟨(some 40), .p (.move (.t 44)), none, none, []⟩,
 ⟨(some 45), .p (.extract (.t 40) 0), none, none, []⟩,
 ⟨(some 46), .p (.extract (.t 40) 1), none, none, []⟩,
 ⟨(some 11), .p (.move (.t 45)), none, none, []⟩,
 ⟨(some 12), .p (.move (.t 46)), none, none, []⟩])
 (.seq (.seq (.region 0 [⟨(some 47), .p (.move (.t 8)), none, none, []⟩,
 ⟨(some 48), .p (.un .not (.t 47)), none, none, []⟩,
 ⟨(some 49), .p (.move (.t 48)), none, none, []⟩,
 ⟨(some 50), .p (.move (.t 10)), (some (49, false)), none, []⟩,
 ⟨(some 51), .p (.bin .neq (.t 50) (.c (.int .i64 0))), (some (49, false)), none, []⟩,
 ⟨(some 52), .p (.pick (.t 49) (.c (.bool true)) (.t 51)), none, none, []⟩,
 ⟨(some 53), .p (.move (.t 52)), none, none, []⟩,
 ⟨(some 54), .p (.move (.t 12)), (some (53, false)), none, []⟩,
 ⟨(some 55), .p (.bin .neq (.t 54) (.c (.int .i64 0))), (some (53, false)), none, []⟩,
 ⟨(some 56), .p (.pick (.t 53) (.c (.bool true)) (.t 55)), none, none, []⟩,
 ⟨(some 57), .p (.move (.t 56)), none, none, []⟩,
 ⟨(some 58), .load true 7 (.t 3), (some (57, false)), none, []⟩,
 ⟨(some 59), .p (.move (.t 11)), (some (57, false)), none, []⟩,
 ⟨(some 60), .call 1 57 [(.t 58), (.t 59)], (some (57, false)), none, []⟩,
 ⟨(some 61), .p (.un .not (.t 60)), (some (57, false)), none, []⟩,
 ⟨(some 62), .p (.pick (.t 57) (.c (.bool true)) (.t 61)), none, none, []⟩,
 ⟨(some 63), .p (.move (.t 62)), none, none, []⟩,
 ⟨(some 64), .p (.move (.t 9)), (some (63, false)), none, []⟩,
 ⟨(some 65), .p (.fieldAddr 5 (.t 3)), (some (63, false)), none, []⟩,
 ⟨(some 66), .load false 1 (.t 65), (some (63, false)), none, []⟩,
 ⟨(some 67), .p (.lenS (.t 66)), (some (63, false)), none, []⟩,
 ⟨(some 68), .p (.bin .sub (.t 67) (.c (.int .i64 1))), (some (63, false)), none, []⟩,
 ⟨(some 69), .call 1 53 [(.t 64), (.c (.int .i64 0)), (.t 68)], (some (63, false)), none, []⟩,
 ⟨(some 70), .p (.un .not (.t 69)), (some (63, false)), none, []⟩,
 ⟨(some 71), .p (.pick (.t 63) (.c (.bool true)) (.t 70)), none, none, []⟩,
 ⟨(some 72), .p (.move (.t 71)), none, none, []⟩,
 ⟨(some 73), .p (.move (.t 9)), (some (72, false)), none, []⟩,
 ⟨(some 74), .p (.move (.t 2)), (some (72, false)), none, []⟩,
 ⟨(some 75), .call 1 56 [(.t 73), (.t 74)], (some (72, false)), none, []⟩,
 ⟨(some 76), .p (.un .not (.t 75)), (some (72, false)), none, []⟩,
 ⟨(some 77), .p (.pick (.t 72) (.c (.bool true)) (.t 76)), none, none, []⟩,
 ⟨(some 78), .p (.move (.t 77)), none, none, []⟩,
 ⟨(some 79), .p (.move (.t 7)), (some (78, false)), none, []⟩,
 ⟨(some 80), .p (.move (.t 9)), (some (78, false)), none, []⟩,
 ⟨(some 81), .call 1 54 [(.t 79), (.t 80)], (some (78, false)), none, []⟩,
 ⟨(some 82), .p (.un .not (.t 81)), (some (78, false)), none, []⟩,
 ⟨(some 83), .p (.pick (.t 78) (.c (.bool true)) (.t 82)), none, none, []⟩,
 ⟨(some 84), .p (.move (.t 83)), none, none, []⟩,
 ⟨(some 85), .p (.move (.t 7)), (some (84, false)), none, []⟩,
 ⟨(some 86), .p (.move (.t 2)), (some (84, false)), none, []⟩,
 ⟨(some 87), .call 1 56 [(.t 85), (.t 86)], (some (84, false)), none, []⟩,
 ⟨(some 88), .p (.move (.t 87)), (some (84, false)), none, []⟩,
 ⟨(some 89), .p (.move (.t 9)), (some (88, true)), none, []⟩,
 ⟨(some 90), .p (.lenS (.t 89)), (some (88, true)), none, []⟩,
 ⟨(some 91), .p (.move (.t 7)), (some (88, true)), none, []⟩,
 ⟨(some 92), .p (.lenS (.t 91)), (some (88, true)), none, []⟩,
 ⟨(some 93), .p (.bin .neq (.t 90) (.t 92)), (some (88, true)), none, []⟩,
 ⟨(some 94), .p (.pick (.t 88) (.t 93) (.c (.bool false))), (some (84, false)), none, []⟩,
 ⟨(some 95), .p (.pick (.t 84) (.c (.bool true)) (.t 94)), none, none, []⟩])
 (.cond (.t 95) (.seq (.region 0 [⟨(some 6), .p (.move (.c (.bool false))), none, none, []⟩])
 (.ret))
 (.skip)))
 (.seq (.region 0 [⟨(some 97), .load true 7 (.t 3), none, none, []⟩,
 ⟨(some 98), .load true 3 (.t 4), none, none, []⟩,
 ⟨(some 99), .call 1 25 [(.t 98)], none, none, []⟩,
 ⟨(some 100), .p (.move (.t 11)), none, none, []⟩,
 ⟨(some 101), .call 1 31 [(.t 97), (.t 99), (.t 100)], none, none, []⟩,
 ⟨(some 96), .p (.move (.t 101)), none, none, []⟩,
 ⟨(some 102), .p (.extract (.t 96) 0), none, none, []⟩,
 ⟨(some 103), .p (.extract (.t 96) 1), none, none, []⟩,
 ⟨(some 13), .p (.move (.t 102)), none, none, []⟩,
 ⟨(some 14), .p (.move (.t 103)), none, none, []⟩])
 (.seq (.region 0 [⟨(some 104), .p (.move (.t 14)), none, none, []⟩,
 ⟨(some 105), .p (.bin .eql (.t 104) (.c (.int .i64 0))), none, none, []⟩,
 ⟨(some 106), .p (.move (.t 105)), none, none, []⟩,
 ⟨(some 107), .p (.move (.t 13)), (some (106, true)), none, []⟩,
 ⟨(some 108), .p (.lenS (.t 107)), (some (106, true)), none, []⟩,
 ⟨(some 109), .p (.fieldAddr 5 (.t 3)), (some (106, true)), none, []⟩,
 ⟨(some 110), .load false 1 (.t 109), (some (106, true)), none, []⟩,
 ⟨(some 111), .p (.lenS (.t 110)), (some (106, true)), none, []⟩,
 ⟨(some 112), .p (.bin .leq (.t 108) (.t 111)), (some (106, true)), none, []⟩,
 ⟨(some 113), .p (.pick (.t 106) (.t 112) (.c (.bool false))), none, none, []⟩,
 ⟨(some 114), .p (.move (.t 113)), none, none, []⟩,
 ⟨(some 115), .p (.move (.t 13)), (some (114, true)), none, []⟩,
 ⟨(some 116), .p (.lenS (.t 115)), (some (114, true)), none, []⟩,
 ⟨(some 117), .p (.move (.t 9)), (some (114, true)), none, []⟩,
 ⟨(some 118), .p (.lenS (.t 117)), (some (114, true)), none, []⟩,
 ⟨(some 119), .p (.bin .gtr (.t 116) (.t 118)), (some (114, true)), none, []⟩,
 ⟨(some 120), .p (.move (.t 119)), (some (114, true)), none, []⟩,
 ⟨(some 121), .p (.move (.t 13)), (some (120, false)), none, []⟩,
 ⟨(some 122), .p (.lenS (.t 121)), (some (120, false)), none, []⟩,
 ⟨(some 123), .p (.move (.t 9)), (some (120, false)), none, []⟩,
 ⟨(some 124), .p (.lenS (.t 123)), (some (120, false)), none, []⟩,
 ⟨(some 125), .p (.bin .eql (.t 122) (.t 124)), (some (120, false)), none, []⟩,
 ⟨(some 126), .p (.move (.t 125)), (some (120, false)), none, []⟩,
 ⟨(some 127), .p (.move (.t 11)), (some (126, true)), none, []⟩,
 ⟨(some 128), .p (.move (.t 2)), (some (126, true)), none, []⟩,
 ⟨(some 129), .p (.bin .leq (.t 127) (.t 128)), (some (126, true)), none, []⟩,
 ⟨(some 130), .p (.pick (.t 126) (.t 129) (.c (.bool false))), (some (120, false)), none, []⟩,
 ⟨(some 131), .p (.pick (.t 120) (.c (.bool true)) (.t 130)), (some (114, true)), none, []⟩,
 ⟨(some 132), .p (.pick (.t 114) (.t 131) (.c (.bool false))), none, none, []⟩,
 ⟨(some 133), .p (.move (.t 132)), none, none, []⟩,
 ⟨(some 134), .call 1 16 [], (some (133, true)), none, []⟩,
 ⟨(some 135), .p (.pick (.t 133) (.t 134) (.c (.bool false))), none, none, []⟩,
 ⟨(some 6), .p (.move (.t 135)), none, none, []⟩])
 (.ret))))))))⟩
/-- almadraba/almadrabalaw02.AnchorsBack -/
def f12 : AFn := ⟨204, [.tmp 4],
 .seq (.region 0 [⟨(some 2), .box (.t 0), none, none, []⟩,
 ⟨(some 3), .box (.t 1), none, none, []⟩,
 ⟨(some 4), .p (.move (.c (.bool false))), none, none, []⟩])
 (.seq (.seq (.region 0 [⟨(some 31), .load true 7 (.t 2), none, none, []⟩,
 ⟨(some 32), .load true 3 (.t 3), none, none, []⟩,
 ⟨(some 33), .call 1 51 [(.t 31), (.t 32)], none, none, []⟩,
 ⟨(some 34), .p (.un .not (.t 33)), none, none, []⟩])
 (.cond (.t 34) (.seq (.region 0 [⟨(some 35), .call 1 16 [], none, none, []⟩,
 ⟨(some 4), .p (.move (.t 35)), none, none, []⟩])
 (.ret))
 (.skip)))
 (.seq (.region 0 [⟨(some 36), .load true 7 (.t 2), none, none, []⟩,
 ⟨(some 37), .call 1 60 [(.t 36)], none, none, []⟩,
 ⟨(some 5), .alloc [.int .i64 0, .int .i64 0, .int .i64 0, .int .i64 0, .nils, .nils, .nils], none, none, []⟩,
 ⟨none, .store 7 (.t 5) (.t 37), none, none, []⟩])
 (.seq (.region 0 [⟨(some 39), .load true 7 (.t 2), none, none, []⟩,
 ⟨(some 40), .load true 3 (.t 3), none, none, []⟩,
 ⟨(some 41), .call 1 52 [(.t 39), (.t 40)], none, none, []⟩,
 ⟨(some 38), .p (.move (.t 41)), none, none, []⟩,
 ⟨(some 42), .p (.extract (.t 38) 0), none, none, []⟩,
 ⟨(some 43), .p (.extract (.t 38) 1), none, none, []⟩,
 ⟨(some 6), .p (.move (.t 42)), none, none, []⟩,
 ⟨(some 7), .p (.move (.t 43)), none, none, []⟩])
 (.seq (.region 0 [⟨(some 45), .load true 7 (.t 5), none, none, []⟩,
 ⟨(some 46), .load true 3 (.t 3), none, none, []⟩,
 ⟨(some 47), .call 1 52 [(.t 45), (.t 46)], none, none, []⟩,
 ⟨(some 44), .p (.move (.t 47)), none, none, []⟩,
 ⟨(some 48), .p (.extract (.t 44) 0), none, none, []⟩,
 ⟨(some 49), .p (.extract (.t 44) 1), none, none, []⟩,
 ⟨(some 8), .p (.move (.t 48)), none, none, []⟩,
 ⟨(some 9), .p (.move (.t 49)), none, none, []⟩])
 (.seq (.seq (.region 0 [⟨(some 50), .p (.move (.t 7)), none, none, []⟩,
 ⟨(some 51), .p (.un .not (.t 50)), none, none, []⟩,
 ⟨(some 52), .p (.move (.t 51)), none, none, []⟩,
 ⟨(some 53), .p (.move (.t 9)), (some (52, false)), none, []⟩,
 ⟨(some 54), .p (.un .not (.t 53)), (some (52, false)), none, []⟩,
 ⟨(some 55), .p (.pick (.t 52) (.c (.bool true)) (.t 54)), none, none, []⟩,
 ⟨(some 56), .p (.move (.t 55)), none, none, []⟩,
 ⟨(some 57), .load true 7 (.t 2), (some (56, false)), none, []⟩,
 ⟨(some 58), .p (.move (.t 6)), (some (56, false)), none, []⟩,
 ⟨(some 59), .p (.move (.t 8)), (some (56, false)), none, []⟩,
 ⟨(some 60), .call 1 61 [(.t 57), (.t 58), (.t 59)], (some (56, false)), none, []⟩,
 ⟨(some 61), .p (.un .not (.t 60)), (some (56, false)), none, []⟩,
 ⟨(some 62), .p (.pick (.t 56) (.c (.bool true)) (.t 61)), none, none, []⟩])
 (.cond (.t 62) (.seq (.region 0 [⟨(some 4), .p (.move (.c (.bool false))), none, none, []⟩])
 (.ret))
 (.skip)))
 (.seq (.region 0 [⟨(some 64), .load true 7 (.t 2), none, none, []⟩,
 ⟨(some 65), .call 1 43 [(.t 64)], none, none, []⟩,
 ⟨(some 63), .p (.move (.t 65)), none, none, []⟩,
 ⟨(some 66), .p (.extract (.t 63) 0), none, none, []⟩,
 ⟨(some 67), .p (.extract (.t 63) 1), none, none, []⟩,
 ⟨(some 10), .p (.move (.t 66)), none, none, []⟩,
 ⟨(some 11), .p (.move (.t 67)), none, none, []⟩])
 (.seq (.region 0 [⟨(some 69), .load true 7 (.t 5), none, none, []⟩,
 ⟨(some 70), .call 1 43 [(.t 69)], none, none, []⟩,
 ⟨(some 68), .p (.move (.t 70)), none, none, []⟩,
 ⟨(some 71), .p (.extract (.t 68) 0), none, none, []⟩,
 ⟨(some 72), .p (.extract (.t 68) 1), none, none, []⟩,
 ⟨(some 12), .p (.move (.t 71)), none, none, []⟩,
 ⟨(some 13), .p (.move (.t 72)), none, none, []⟩])
 (.seq (.region 0 [⟨(some 74), .load true 7 (.t 2), none, none, []⟩,
 ⟨(some 75), .call 1 45 [(.t 74)], none, none, []⟩,
 ⟨(some 73), .p (.move (.t 75)), none, none, []⟩,
 ⟨(some 76), .p (.extract (.t 73) 0), none, none, []⟩,
 ⟨(some 77), .p (.extract (.t 73) 1), none, none, []⟩,
 ⟨(some 14), .p (.move (.t 76)), none, none, []⟩,
 ⟨(some 15), .p (.move (.t 77)), none, none, []⟩])
 (.seq (.region 0 [⟨(some 79), .load true 7 (.t 5), none, none, []⟩,
 ⟨(some 80), .call 1 45 [(.t 79)], none, none, []⟩,
 ⟨(some 78), .p (.move (.t 80)), none, none, []⟩,
 ⟨(some 81), .p (.extract (.t 78) 0), none, none, []⟩,
 ⟨(some 82), .p (.extract (.t 78) 1), none, none, []⟩,
 ⟨(some 16), .p (.move (.t 81)), none, none, []⟩,
 ⟨(some 17), .p (.move (.t 82)), none, none, []⟩])
 (.seq (.seq (.region 0 [⟨(some 83), .p (.move (.t 10)), none, none, []⟩,
 ⟨(some 84), .p (.move (.t 12)), none, none, []⟩,
 ⟨(some 85), .p (.bin .neq (.t 83) (.t 84)), none, none, []⟩,
 ⟨(some 86), .p (.move (.t 85)), none, none, []⟩,
 ⟨(some 87), .p (.move (.t 11)), (some (86, false)), none, []⟩,
 ⟨(some 88), .p (.move (.t 13)), (some (86, false)), none, []⟩,
 ⟨(some 89), .p (.bin .neq (.t 87) (.t 88)), (some (86, false)), none, []⟩,
 ⟨(some 90), .p (.pick (.t 86) (.c (.bool true)) (.t 89)), none, none, []⟩,
 ⟨(some 91), .p (.move (.t 90)), none, none, []⟩,
 ⟨(some 92), .p (.move (.t 14)), (some (91, false)), none, []⟩,
 ⟨(some 93), .p (.move (.t 16)), (some (91, false)), none, []⟩,
 ⟨(some 94), .p (.bin .neq (.t 92) (.t 93)), (some (91, false)), none, []⟩,
 ⟨(some 95), .p (.pick (.t 91) (.c (.bool true)) (.t 94)), none, none, []⟩,
 ⟨(some 96), .p (.move (.t 95)), none, none, []⟩,
 ⟨(some 97), .p (.move (.t 15)), (some (96, false)), none, []⟩,
 ⟨(some 98), .p (.move (.t 17)), (some (96, false)), none, []⟩,
 ⟨(some 99), .p (.bin .neq (.t 97) (.t 98)), (some (96, false)), none, []⟩,
 ⟨(some 100), .p (.pick (.t 96) (.c (.bool true)) (.t 99)), none, none, []⟩])
 (.cond (.t 100) (.seq (.region 0 [⟨(some 4), .p (.move (.c (.bool false))), none, none, []⟩])
 (.ret))
 (.skip)))
 (.seq (.region 0 [⟨(some 101), .p (.fieldAddr 5 (.t 2)), none, none, []⟩,
 ⟨(some 102), .load false 1 (.t 101), none, none, []⟩,
 ⟨(some 103), .p (.lenS (.t 102)), none, none, []⟩,
 ⟨(some 104), .p (.bin .sub (.t 103) (.c (.int .i64 1))), none, none, []⟩,
 ⟨(some 18), .p (.move (.t 104)), none, none, []⟩])
 (.seq (.seq (.region 0 [⟨(some 19), .p (.move (.c (.int .i64 0))), none, none, []⟩])
 (.block 0 (.loop (.seq (.seq (.region 0 [⟨(some 105), .p (.move (.t 19)), none, none, []⟩,
 ⟨(some 106), .p (.move (.t 18)), none, none, []⟩,
 ⟨(some 107), .p (.bin .leq (.t 105) (.t 106)), none, none, []⟩])
 (.cond (.t 107) (.skip)
 (.exit 0)))
 (.seq (.block 1 (.seq (.region 0 [⟨(some 111), .load true 7 (.t 2), none, none, []⟩,
 ⟨(some 112), .p (.move (.t 19)), none, none, []⟩,
 ⟨(some 113), .call 1 37 [(.t 111), (.t 112)], none, none, []⟩,
 ⟨(some 110), .p (.move (.t 113)), none, none, []⟩,
 ⟨(some 114), .p (.extract (.t 110) 0), none, none, []⟩,
 ⟨(some 115), .p (.extract (.t 110) 1), none, none, []⟩,
 ⟨(some 20), .p (.move (.t 114)), none, none, []⟩,
 ⟨(some 21), .p (.move (.t 115)), none, none, []⟩])
 (.seq (.region 0 [⟨(some 117), .load true 7 (.t 5), none, none, []⟩,
 ⟨(some 118), .p (.move (.t 18)), none, none, []⟩,
 ⟨(some 119), .p (.move (.t 19)), none, none, []⟩,
 ⟨(some 120), .p (.bin .sub (.t 118) (.t 119)), none, none, []⟩,
 ⟨(some 121), .call 1 37 [(.t 117), (.t 120)], none, none, []⟩,
 ⟨(some 116), .p (.move (.t 121)), none, none, []⟩,
 ⟨(some 122), .p (.extract (.t 116) 0), none, none, []⟩,
 ⟨(some 123), .p (.extract (.t 116) 1), none, none, []⟩,
 ⟨(some 22), .p (.move (.t 122)), none, none, []⟩,
 ⟨(some 23), .p (.move (.t 123)), none, none, []⟩])
 (.seq (.region 0 [⟨(some 125), .load true 7 (.t 2), none, none, []⟩,
 ⟨(some 126), .p (.move (.t 19)), none, none, []⟩,
 ⟨(some 127), .call 1 41 [(.t 125), (.t 126)], none, none, []⟩,
 ⟨(some 124), .p (.move (.t 127)), none, none, []⟩,
 ⟨(some 128), .p (.extract (.t 124) 0), none, none, []⟩,
 ⟨(some 129), .p (.extract (.t 124) 1), none, none, []⟩,
 ⟨(some 24), .alloc [.int .i64 0, .int .i64 0], none, none, []⟩,
 ⟨none, .store 2 (.t 24) (.t 128), none, none, []⟩,
 ⟨(some 25), .p (.move (.t 129)), none, none, []⟩])
 (.seq (.region 0 [⟨(some 131), .load true 7 (.t 5), none, none, []⟩,
 ⟨(some 132), .p (.move (.t 18)), none, none, []⟩,
 ⟨(some 133), .p (.move (.t 19)), none, none, []⟩,
 ⟨(some 134), .p (.bin .sub (.t 132) (.t 133)), none, none, []⟩,
 ⟨(some 135), .call 1 41 [(.t 131), (.t 134)], none, none, []⟩,
 ⟨(some 130), .p (.move (.t 135)), none, none, []⟩,
 ⟨(some 136), .p (.extract (.t 130) 0), none, none, []⟩,
 ⟨(some 137), .p (.extract (.t 130) 1), none, none, []⟩,
 ⟨(some 26), .alloc [.int .i64 0, .int .i64 0], none, none, []⟩,
 ⟨none, .store 2 (.t 26) (.t 136), none, none, []⟩,
 ⟨(some 27), .p (.move (.t 137)), none, none, []⟩])
 (.seq (.region 0 [⟨(some 138), .p (.move (.t 20)), none, none, []⟩,
 ⟨(some 139), .p (.move (.t 22)), none, none, []⟩,
 ⟨(some 140), .p (.bin .neq (.t 138) (.t 139)), none, none, []⟩,
 ⟨(some 141), .p (.move (.t 140)), none, none, []⟩,
 ⟨(some 142), .p (.move (.t 21)), (some (141, false)), none, []⟩,
 ⟨(some 143), .p (.move (.t 23)), (some (141, false)), none, []⟩,
 ⟨(some 144), .p (.bin .neq (.t 142) (.t 143)), (some (141, false)), none, []⟩,
 ⟨(some 145), .p (.pick (.t 141) (.c (.bool true)) (.t 144)), none, none, []⟩,
 ⟨(some 146), .p (.move (.t 145)), none, none, []⟩,
 ⟨(some 147), .load true 2 (.t 24), (some (146, false)), none, []⟩,
 ⟨(some 148), .load true 2 (.t 26), (some (146, false)), none, []⟩,
 ⟨(some 149), .p (.eqS true [true, true] (.t 147) (.t 148)), (some (146, false)), none, []⟩,
 ⟨(some 150), .p (.pick (.t 146) (.c (.bool true)) (.t 149)), none, none, []⟩,
 ⟨(some 151), .p (.move (.t 150)), none, none, []⟩,
 ⟨(some 152), .p (.move (.t 25)), (some (151, false)), none, []⟩,
 ⟨(some 153), .p (.move (.t 27)), (some (151, false)), none, []⟩,
 ⟨(some 154), .p (.bin .neq (.t 152) (.t 153)), (some (151, false)), none, []⟩,
 ⟨(some 155), .p (.pick (.t 151) (.c (.bool true)) (.t 154)), none, none, []⟩])
 (.cond (.t 155) (.seq (.region 0 [⟨(some 4), .p (.move (.c (.bool false))), none, none, []⟩])
 (.ret))
 (.skip))))))))
 (.region 0 [⟨(some 108), .p (.move (.t 19)), none, none, []⟩,
 ⟨(some 109), .p (.bin .add (.t 108) (.c (.int .i64 1))), none, none, []⟩,
 ⟨(some 19), .p (.move (.t 109)), none, none, []⟩]))))))
 (.seq (.region 0 [⟨(some 157), .load true 7 (.t 2), none, none, []⟩,
 ⟨(some 158), .call 1 49 [(.t 157)], none, none, []⟩,
 ⟨(some 156), .p (.move (.t 158)), none, none, []⟩,
 ⟨(some 159), .p (.extract (.t 156) 0), none, none, []⟩,
 ⟨(some 160), .p (.extract (.t 156) 1), none, none, []⟩,
 ⟨(some 28), .p (.move (.t 159)), none, none, []⟩,
 ⟨(some 11), .p (.move (.t 160)), none, none, []⟩])
 (.seq (.region 0 [⟨(some 162), .load true 7 (.t 5), none, none, []⟩,
 ⟨(some 163), .call 1 49 [(.t 162)], none, none, []⟩,
 ⟨(some 161), .p (.move (.t 163)), none, none, []⟩,
 ⟨(some 164), .p (.extract (.t 161) 0), none, none, []⟩,
 ⟨(some 165), .p (.extract (.t 161) 1), none, none, []⟩,
 ⟨(some 29), .p (.move (.t 164)), none, none, []⟩,
 ⟨(some 13), .p (.move (.t 165)), none, none, []⟩])
 (.seq (.seq (.region 0 [⟨(some 166), .p (.move (.t 11)), none, none, []⟩,
 ⟨(some 167), .p (.move (.t 13)), none, none, []⟩,
 ⟨(some 168), .p (.bin .neq (.t 166) (.t 167)), none, none, []⟩,
 ⟨(some 169), .p (.move (.t 168)), none, none, []⟩,
 ⟨(some 170), .p (.move (.t 28)), (some (169, false)), none, []⟩,
 ⟨(some 171), .p (.lenS (.t 170)), (some (169, false)), none, []⟩,
 ⟨(some 172), .p (.move (.t 29)), (some (169, false)), none, []⟩,
 ⟨(some 173), .p (.lenS (.t 172)), (some (169, false)), none, []⟩,
 ⟨(some 174), .p (.bin .neq (.t 171) (.t 173)), (some (169, false)), none, []⟩,
 ⟨(some 175), .p (.pick (.t 169) (.c (.bool true)) (.t 174)), none, none, []⟩,
 ⟨(some 176), .p (.move (.t 175)), none, none, []⟩,
 ⟨(some 177), .p (.move (.t 28)), (some (176, false)), none, []⟩,
 ⟨(some 178), .p (.lenS (.t 177)), (some (176, false)), none, []⟩,
 ⟨(some 179), .p (.fieldAddr 5 (.t 2)), (some (176, false)), none, []⟩,
 ⟨(some 180), .load false 1 (.t 179), (some (176, false)), none, []⟩,
 ⟨(some 181), .p (.lenS (.t 180)), (some (176, false)), none, []⟩,
 ⟨(some 182), .p (.bin .gtr (.t 178) (.t 181)), (some (176, false)), none, []⟩,
 ⟨(some 183), .p (.pick (.t 176) (.c (.bool true)) (.t 182)), none, none, []⟩])
 (.cond (.t 183) (.seq (.region 0 [⟨(some 4), .p (.move (.c (.bool false))), none, none, []⟩])
 (.ret))
 (.skip)))
 (.seq (.seq (.region 0 [⟨(some 30), .p (.move (.c (.int .i64 0))), none, none, []⟩])
 (.block 2 (.loop (.seq (.seq (.region 0 [⟨(some 184), .p (.move (.t 30)), none, none, []⟩,
 ⟨(some 185), .p (.move (.t 28)), none, none, []⟩,
 ⟨(some 186), .p (.lenS (.t 185)), none, none, []⟩,
 ⟨(some 187), .p (.bin .lss (.t 184) (.t 186)), none, none, []⟩])
 (.cond (.t 187) (.skip)
 (.exit 2)))
 (.seq (.block 3 (.seq (.region 0 [⟨(some 190), .p (.move (.t 28)), none, none, []⟩,
 ⟨(some 191), .p (.move (.t 30)), none, none, []⟩,
 ⟨(some 192), .p (.idxSl 1 (.t 190) (.t 191)), none, none, []⟩,
 ⟨(some 193), .load false 1 (.t 192), none, none, []⟩,
 ⟨(some 194), .p (.move (.t 29)), none, none, []⟩,
 ⟨(some 195), .p (.move (.t 29)), none, none, []⟩,
 ⟨(some 196), .p (.lenS (.t 195)), none, none, []⟩,
 ⟨(some 197), .p (.bin .sub (.t 196) (.c (.int .i64 1))), none, none, []⟩,
 ⟨(some 198), .p (.move (.t 30)), none, none, []⟩,
 ⟨(some 199), .p (.bin .sub (.t 197) (.t 198)), none, none, []⟩,
 ⟨(some 200), .p (.idxSl 1 (.t 194) (.t 199)), none, none, []⟩,
 ⟨(some 201), .load false 1 (.t 200), none, none, []⟩,
 ⟨(some 202), .p (.bin .neq (.t 193) (.t 201)), none, none, []⟩])
 (.cond (.t 202) (.seq (.region 0 [⟨(some 4), .p (.move (.c (.bool false))), none, none, []⟩])
 (.ret))
 (.skip))))
 (.region 0 [⟨(some 188), .p (.move (.t 30)), none, none, []⟩,
 ⟨(some 189), .p (.bin .add (.t 188) (.c (.int .i64 1))), none, none, []⟩,
 ⟨(some 30), .p (.move (.t 189)), none, none, []⟩]))))))
 (.seq (.region 0 [⟨(some 203), .call 1 16 [], none, none, []⟩,
 ⟨(some 4), .p (.move (.t 203)), none, none, []⟩])
 (.ret))))))))))))))))))⟩
/-- almadraba/almadrabalaw02.AnchorsNeed -/
def f13 : AFn := ⟨132, [.tmp 4],
 .seq (.region 0 [⟨(some 2), .box (.t 0), none, none, []⟩,
 ⟨(some 4), .p (.move (.c (.bool false))), none, none, []⟩])
 (.seq (.seq (.region 0 [⟨(some 16), .load true 7 (.t 2), none, none, []⟩,
 ⟨(some 17), .call 1 62 [(.t 16)], none, none, []⟩,
 ⟨(some 18), .p (.un .not (.t 17)), none, none, []⟩,
 ⟨(some 19), .p (.move (.t 18)), none, none, []⟩,
 ⟨(some 20), .load true 7 (.t 2), (some (19, false)), none, []⟩,
 ⟨(some 21), .p (.move (.t 1)), (some (19, false)), none, []⟩,
 ⟨(some 22), .call 1 57 [(.t 20), (.t 21)], (some (19, false)), none, []⟩,
 ⟨(some 23), .p (.un .not (.t 22)), (some (19, false)), none, []⟩,
 ⟨(some 24), .p (.pick (.t 19) (.c (.bool true)) (.t 23)), none, none, []⟩])
 (.cond (.t 24) (.seq (.region 0 [⟨(some 25), .call 1 16 [], none, none, []⟩,
 ⟨(some 4), .p (.move (.t 25)), none, none, []⟩])
 (.ret))
 (.skip)))
 (.seq (.region 0 [⟨(some 27), .load true 7 (.t 2), none, none, []⟩,
 ⟨(some 28), .call 1 49 [(.t 27)], none, none, []⟩,
 ⟨(some 26), .p (.move (.t 28)), none, none, []⟩,
 ⟨(some 29), .p (.extract (.t 26) 0), none, none, []⟩,
 ⟨(some 30), .p (.extract (.t 26) 1), none, none, []⟩,
 ⟨(some 5), .p (.move (.t 29)), none, none, []⟩,
 ⟨(some 6), .p (.move (.t 30)), none, none, []⟩])
 (.seq (.region 0 [⟨(some 32), .load true 7 (.t 2), none, none, []⟩,
 ⟨(some 33), .call 1 39 [(.t 32)], none, none, []⟩,
 ⟨(some 31), .p (.move (.t 33)), none, none, []⟩,
 ⟨(some 34), .p (.extract (.t 31) 0), none, none, []⟩,
 ⟨(some 35), .p (.extract (.t 31) 1), none, none, []⟩,
 ⟨(some 7), .p (.move (.t 34)), none, none, []⟩,
 ⟨(some 8), .p (.move (.t 35)), none, none, []⟩])
 (.seq (.seq (.region 0 [⟨(some 36), .p (.move (.t 8)), none, none, []⟩,
 ⟨(some 37), .p (.bin .neq (.t 36) (.c (.int .i64 0))), none, none, []⟩,
 ⟨(some 38), .p (.move (.t 37)), none, none, []⟩,
 ⟨(some 39), .p (.move (.t 6)), (some (38, false)), none, []⟩,
 ⟨(some 40), .p (.bin .neq (.t 39) (.c (.int .i64 0))), (some (38, false)), none, []⟩,
 ⟨(some 41), .p (.move (.t 40)), (some (38, false)), none, []⟩,
 ⟨(some 42), .p (.move (.t 6)), (some (41, true)), none, []⟩,
 ⟨(some 43), .p (.bin .neq (.t 42) (.c (.int .i64 3))), (some (41, true)), none, []⟩,
 ⟨(some 44), .p (.pick (.t 41) (.t 43) (.c (.bool false))), (some (38, false)), none, []⟩,
 ⟨(some 45), .p (.pick (.t 38) (.c (.bool true)) (.t 44)), none, none, []⟩])
 (.cond (.t 45) (.seq (.region 0 [⟨(some 4), .p (.move (.c (.bool false))), none, none, []⟩])
 (.ret))
 (.skip)))
 (.seq (.seq (.region 0 [⟨(some 46), .p (.move (.t 6)), none, none, []⟩,
 ⟨(some 47), .p (.bin .neq (.t 46) (.c (.int .i64 0))), none, none, []⟩])
 (.cond (.t 47) (.seq (.region 0 [⟨(some 48), .p (.move (.t 7)), none, none, []⟩,
 ⟨(some 49), .p (.bin .neq (.t 48) (.c (.int .i64 1))), none, none, []⟩,
 ⟨(some 50), .p (.move (.t 49)), none, none, []⟩,
 ⟨(some 51), .call 1 16 [], (some (50, true)), none, []⟩,
 ⟨(some 52), .p (.pick (.t 50) (.t 51) (.c (.bool false))), none, none, []⟩,
 ⟨(some 4), .p (.move (.t 52)), none, none, []⟩])
 (.ret))
 (.skip)))
 (.seq (.seq (.region 0 [⟨(some 53), .p (.move (.t 5)), none, none, []⟩,
 ⟨(some 54), .p (.lenS (.t 53)), none, none, []⟩,
 ⟨(some 55), .p (.fieldAddr 5 (.t 2)), none, none, []⟩,
 ⟨(some 56), .load false 1 (.t 55), none, none, []⟩,
 ⟨(some 57), .p (.lenS (.t 56)), none, none, []⟩,
 ⟨(some 58), .p (.bin .neq (.t 54) (.t 57)), none, none, []⟩])
 (.cond (.t 58) (.seq (.region 0 [⟨(some 4), .p (.move (.c (.bool false))), none, none, []⟩])
 (.ret))
 (.skip)))
 (.seq (.region 0 [⟨(some 59), .load true 7 (.t 2), none, none, []⟩,
 ⟨(some 9), .alloc [.int .i64 0, .int .i64 0, .int .i64 0, .int .i64 0, .nils, .nils, .nils], none, none, []⟩,
 ⟨none, .store 7 (.t 9) (.t 59), none, none, []⟩])
 (.seq (.region 0 [⟨(some 10), .p (.move (.c (.int .i64 0))), none, none, []⟩])
 (.seq (.seq (.region 0 [⟨(some 11), .p (.move (.c (.int .i64 0))), none, none, []⟩])
 (.block 0 (.loop (.seq (.seq (.region 0 [⟨(some 60), .p (.move (.t 11)), none, none, []⟩,
 ⟨(some 61), .p (.move (.t 5)), none, none, []⟩,
 ⟨(some 62), .p (.lenS (.t 61)), none, none, []⟩,
 ⟨(some 63), .p (.bin .lss (.t 60) (.t 62)), none, none, []⟩])
 (.cond (.t 63) (.skip)
 (.exit 0)))
 (.seq (.block 1 (.seq (.seq (.region 0 [⟨(some 66), .p (.move (.t 5)), none, none, []⟩,
 ⟨(some 67), .p (.move (.t 11)), none, none, []⟩,
 ⟨(some 68), .p (.idxSl 1 (.t 66) (.t 67)), none, none, []⟩,
 ⟨(some 69), .load false 1 (.t 68), none, none, []⟩,
 ⟨(some 70), .p (.fieldAddr 5 (.t 2)), none, none, []⟩,
 ⟨(some 71), .load false 1 (.t 70), none, none, []⟩,
 ⟨(some 72), .p (.move (.t 11)), none, none, []⟩,
 ⟨(some 73), .p (.idxSl 2 (.t 71) (.t 72)), none, none, []⟩,
 ⟨(some 74), .p (.fieldAddr 0 (.t 73)), none, none, []⟩,
 ⟨(some 75), .load false 1 (.t 74), none, none, []⟩,
 ⟨(some 76), .p (.bin .sub (.c (.int .i64 20)) (.t 75)), none, none, []⟩,
 ⟨(some 77), .call 1 58 [(.t 69), (.c (.int .i64 0)), (.t 76)], none, none, []⟩,
 ⟨(some 78), .p (.un .not (.t 77)), none, none, []⟩])
 (.cond (.t 78) (.seq (.region 0 [⟨(some 4), .p (.move (.c (.bool false))), none, none, []⟩])
 (.ret))
 (.skip)))
 (.seq (.region 0 [⟨(some 79), .load true 7 (.t 9), none, none, []⟩,
 ⟨(some 80), .p (.move (.t 11)), none, none, []⟩,
 ⟨(some 81), .p (.move (.t 5)), none, none, []⟩,
 ⟨(some 82), .p (.move (.t 11)), none, none, []⟩,
 ⟨(some 83), .p (.idxSl 1 (.t 81) (.t 82)), none, none, []⟩,
 ⟨(some 84), .load false 1 (.t 83), none, none, []⟩,
 ⟨(some 85), .call 1 59 [(.t 79), (.t 80), (.t 84)], none, none, []⟩,
 ⟨none, .store 7 (.t 9) (.t 85), none, none, []⟩])
 (.region 0 [⟨(some 86), .p (.move (.t 10)), none, none, []⟩,
 ⟨(some 87), .p (.move (.t 5)), none, none, []⟩,
 ⟨(some 88), .p (.move (.t 11)), none, none, []⟩,
 ⟨(some 89), .p (.idxSl 1 (.t 87) (.t 88)), none, none, []⟩,
 ⟨(some 90), .load false 1 (.t 89), none, none, []⟩,
 ⟨(some 91), .p (.bin .add (.t 86) (.t 90)), none, none, []⟩,
 ⟨(some 10), .p (.move (.t 91)), none, none, []⟩]))))
 (.region 0 [⟨(some 64), .p (.move (.t 11)), none, none, []⟩,
 ⟨(some 65), .p (.bin .add (.t 64) (.c (.int .i64 1))), none, none, []⟩,
 ⟨(some 11), .p (.move (.t 65)), none, none, []⟩]))))))
 (.seq (.region 0 [⟨(some 93), .load true 7 (.t 9), none, none, []⟩,
 ⟨(some 94), .call 1 39 [(.t 93)], none, none, []⟩,
 ⟨(some 92), .p (.move (.t 94)), none, none, []⟩,
 ⟨(some 95), .p (.extract (.t 92) 0), none, none, []⟩,
 ⟨(some 96), .p (.extract (.t 92) 1), none, none, []⟩,
 ⟨(some 12), .p (.move (.t 95)), none, none, []⟩,
 ⟨(some 13), .p (.move (.t 96)), none, none, []⟩])
 (.seq (.seq (.region 0 [⟨(some 97), .p (.move (.t 13)), none, none, []⟩,
 ⟨(some 98), .p (.bin .neq (.t 97) (.c (.int .i64 0))), none, none, []⟩,
 ⟨(some 99), .p (.move (.t 98)), none, none, []⟩,
 ⟨(some 100), .p (.move (.t 12)), (some (99, false)), none, []⟩,
 ⟨(some 101), .p (.bin .neq (.t 100) (.c (.int .i64 1))), (some (99, false)), none, []⟩,
 ⟨(some 102), .p (.pick (.t 99) (.c (.bool true)) (.t 101)), none, none, []⟩,
 ⟨(some 103), .p (.move (.t 102)), none, none, []⟩,
 ⟨(some 104), .p (.move (.t 10)), (some (103, false)), none, []⟩,
 ⟨(some 105), .p (.bin .eql (.t 104) (.c (.int .i64 0))), (some (103, false)), none, []⟩,
 ⟨(some 106), .p (.move (.t 7)), (some (103, false)), none, []⟩,
 ⟨(some 107), .p (.bin .eql (.t 106) (.c (.int .i64 1))), (some (103, false)), none, []⟩,
 ⟨(some 108), .p (.eqB true (.t 105) (.t 107)), (some (103, false)), none, []⟩,
 ⟨(some 109), .p (.pick (.t 103) (.c (.bool true)) (.t 108)), none, none, []⟩])
 (.cond (.t 109) (.seq (.region 0 [⟨(some 4), .p (.move (.c (.bool false))), none, none, []⟩])
 (.ret))
 (.skip)))
 (.seq (.seq (.region 0 [⟨(some 110), .p (.move (.t 5)), none, none, []⟩,
 ⟨(some 111), .p (.move (.t 1)), none, none, []⟩,
 ⟨(some 112), .p (.idxSl 1 (.t 110) (.t 111)), none, none, []⟩,
 ⟨(some 113), .load false 1 (.t 112), none, none, []⟩,
 ⟨(some 114), .p (.bin .eql (.t 113) (.c (.int .i64 0))), none, none, []⟩])
 (.cond (.t 114) (.seq (.region 0 [⟨(some 115), .call 1 16 [], none, none, []⟩,
 ⟨(some 4), .p (.move (.t 115)), none, none, []⟩])
 (.ret))
 (.skip)))
 (.seq (.region 0 [⟨(some 117), .load true 7 (.t 9), none, none, []⟩,
 ⟨(some 118), .p (.move (.t 1)), none, none, []⟩,
 ⟨(some 119), .call 1 59 [(.t 117), (.t 118), (.c (.int .i64 (-1)))], none, none, []⟩,
 ⟨(some 120), .call 1 39 [(.t 119)], none, none, []⟩,
 ⟨(some 116), .p (.move (.t 120)), none, none, []⟩,
 ⟨(some 121), .p (.extract (.t 116) 0), none, none, []⟩,
 ⟨(some 122), .p (.extract (.t 116) 1), none, none, []⟩,
 ⟨(some 14), .p (.move (.t 121)), none, none, []⟩,
 ⟨(some 15), .p (.move (.t 122)), none, none, []⟩])
 (.seq (.region 0 [⟨(some 123), .p (.move (.t 15)), none, none, []⟩,
 ⟨(some 124), .p (.bin .eql (.t 123) (.c (.int .i64 0))), none, none, []⟩,
 ⟨(some 125), .p (.move (.t 124)), none, none, []⟩,
 ⟨(some 126), .p (.move (.t 14)), (some (125, true)), none, []⟩,
 ⟨(some 127), .p (.bin .neq (.t 126) (.c (.int .i64 1))), (some (125, true)), none, []⟩,
 ⟨(some 128), .p (.pick (.t 125) (.t 127) (.c (.bool false))), none, none, []⟩,
 ⟨(some 129), .p (.move (.t 128)), none, none, []⟩,
 ⟨(some 130), .call 1 16 [], (some (129, true)), none, []⟩,
 ⟨(some 131), .p (.pick (.t 129) (.t 130) (.c (.bool false))), none, none, []⟩,
 ⟨(some 4), .p (.move (.t 131)), none, none, []⟩])
 (.ret)))))))))))))))⟩
/-- almadraba/almadrabalaw02.AnchorsApart -/
def f14 : AFn := ⟨153, [.tmp 6],
 .seq (.region 0 [⟨(some 3), .box (.t 0), none, none, []⟩,
 ⟨(some 4), .box (.t 1), none, none, []⟩,
 ⟨(some 6), .p (.move (.c (.bool false))), none, none, []⟩])
 (.seq (.seq (.region 0 [⟨(some 18), .load true 7 (.t 3), none, none, []⟩,
 ⟨(some 19), .load true 3 (.t 4), none, none, []⟩,
 ⟨(some 20), .call 1 51 [(.t 18), (.t 19)], none, none, []⟩,
 ⟨(some 21), .p (.un .not (.t 20)), none, none, []⟩,
 ⟨(some 22), .p (.move (.t 21)), none, none, []⟩,
 ⟨(some 23), .load true 7 (.t 3), (some (22, false)), none, []⟩,
 ⟨(some 24), .p (.move (.t 2)), (some (22, false)), none, []⟩,
 ⟨(some 25), .call 1 63 [(.t 23), (.t 24)], (some (22, false)), none, []⟩,
 ⟨(some 26), .p (.un .not (.t 25)), (some (22, false)), none, []⟩,
 ⟨(some 27), .p (.pick (.t 22) (.c (.bool true)) (.t 26)), none, none, []⟩])
 (.cond (.t 27) (.seq (.region 0 [⟨(some 28), .call 1 16 [], none, none, []⟩,
 ⟨(some 6), .p (.move (.t 28)), none, none, []⟩])
 (.ret))
 (.skip)))
 (.seq (.region 0 [⟨(some 29), .load true 7 (.t 3), none, none, []⟩,
 ⟨(some 30), .call 2 17 [(.t 29)], none, none, []⟩,
 ⟨(some 7), .alloc [.int .i64 0, .int .i64 0, .int .i64 0, .int .i64 0, .nils, .nils, .nils], none, none, []⟩,
 ⟨none, .store 7 (.t 7) (.t 30), none, none, []⟩])
 (.seq (.region 0 [⟨(some 31), .p (.fieldAddr 6 (.t 7)), none, none, []⟩,
 ⟨(some 32), .load false 1 (.t 31), none, none, []⟩,
 ⟨(some 33), .p (.move (.t 2)), none, none, []⟩,
 ⟨(some 34), .p (.idxSl 5 (.t 32) (.t 33)), none, none, []⟩,
 ⟨(some 35), .load true 5 (.t 34), none, none, []⟩,
 ⟨(some 8), .alloc [.int .i64 0, .int .i64 0, .int .i64 0, .int .i64 0, .int .i64 0], none, none, []⟩,
 ⟨none, .store 5 (.t 8) (.t 35), none, none, []⟩])
 (.seq (.region 0 [⟨(some 36), .p (.fieldAddr 0 (.t 8)), none, none, []⟩,
 ⟨none, .store 1 (.t 36) (.c (.int .i64 0)), none, none, []⟩,
 ⟨(some 37), .p (.fieldAddr 1 (.t 8)), none, none, []⟩,
 ⟨none, .store 1 (.t 37) (.c (.int .i64 0)), none, none, []⟩])
 (.seq (.region 0 [⟨(some 38), .p (.fieldAddr 6 (.t 7)), none, none, []⟩,
 ⟨(some 39), .load false 1 (.t 38), none, none, []⟩,
 ⟨(some 40), .p (.move (.t 2)), none, none, []⟩,
 ⟨(some 41), .load true 5 (.t 8), none, none, []⟩,
 ⟨(some 42), .p (.idxSl 5 (.t 39) (.t 40)), none, none, []⟩,
 ⟨none, .store 5 (.t 42) (.t 41), none, none, []⟩])
 (.seq (.region 2 [⟨(some 43), .load true 7 (.t 7), none, none, [0, 1]⟩,
 ⟨(some 44), .call 1 17 [(.t 43)], none, none, [0, 1]⟩,
 ⟨(some 45), .load true 7 (.t 7), none, none, [0, 1]⟩,
 ⟨(some 46), .call 1 17 [(.t 45)], none, none, [0, 1]⟩,
 ⟨(some 9), .alloc [.int .i64 0, .int .i64 0, .int .i64 0, .int .i64 0, .nils, .nils, .nils], none, (some 0), []⟩,
 ⟨(some 10), .alloc [.int .i64 0, .int .i64 0, .int .i64 0, .int .i64 0, .nils, .nils, .nils], none, (some 1), []⟩,
 ⟨none, .store 7 (.t 9) (.t 44), none, (some 0), []⟩,
 ⟨none, .store 7 (.t 10) (.t 46), none, (some 1), []⟩])
 (.seq (.region 0 [⟨(some 47), .p (.fieldAddr 5 (.t 9)), none, none, []⟩,
 ⟨(some 48), .load false 1 (.t 47), none, none, []⟩,
 ⟨(some 49), .p (.move (.t 2)), none, none, []⟩,
 ⟨(some 50), .p (.bin .add (.t 49) (.c (.int .i64 1))), none, none, []⟩,
 ⟨(some 51), .p (.slice 2 (.t 48) none (some (.t 50))), none, none, []⟩,
 ⟨(some 52), .p (.fieldAddr 6 (.t 9)), none, none, []⟩,
 ⟨(some 53), .load false 1 (.t 52), none, none, []⟩,
 ⟨(some 54), .p (.move (.t 2)), none, none, []⟩,
 ⟨(some 55), .p (.slice 5 (.t 53) none (some (.t 54))), none, none, []⟩,
 ⟨(some 56), .p (.fieldAddr 5 (.t 9)), none, none, []⟩,
 ⟨none, .store 1 (.t 56) (.t 51), none, none, []⟩,
 ⟨(some 57), .p (.fieldAddr 6 (.t 9)), none, none, []⟩,
 ⟨none, .store 1 (.t 57) (.t 55), none, none, []⟩])
 (.seq (.region 0 [⟨(some 58), .p (.fieldAddr 5 (.t 10)), none, none, []⟩,
 ⟨(some 59), .load false 1 (.t 58), none, none, []⟩,
 ⟨(some 60), .p (.move (.t 2)), none, none, []⟩,
 ⟨(some 61), .p (.bin .add (.t 60) (.c (.int .i64 1))), none, none, []⟩,
 ⟨(some 62), .p (.slice 2 (.t 59) (some (.t 61)) none), none, none, []⟩,
 ⟨(some 63), .p (.fieldAddr 6 (.t 10)), none, none, []⟩,
 ⟨(some 64), .load false 1 (.t 63), none, none, []⟩,
 ⟨(some 65), .p (.move (.t 2)), none, none, []⟩,
 ⟨(some 66), .p (.bin .add (.t 65) (.c (.int .i64 1))), none, none, []⟩,
 ⟨(some 67), .p (.slice 5 (.t 64) (some (.t 66)) none), none, none, []⟩,
 ⟨(some 68), .p (.fieldAddr 5 (.t 10)), none, none, []⟩,
 ⟨none, .store 1 (.t 68) (.t 62), none, none, []⟩,
 ⟨(some 69), .p (.fieldAddr 6 (.t 10)), none, none, []⟩,
 ⟨none, .store 1 (.t 69) (.t 67), none, none, []⟩])
 (.seq (.region 0 [⟨(some 71), .load true 7 (.t 7), none, none, []⟩,
 ⟨(some 72), .load true 3 (.t 4), none, none, []⟩,
 ⟨(some 73), .call 3 52 [(.t 71), (.t 72)], none, none, []⟩,
 ⟨(some 70), .p (.move (.t 73)), none, none, []⟩,
 ⟨(some 74), .p (.extract (.t 70) 0), none, none, []⟩,
 ⟨(some 75), .p (.extract (.t 70) 1), none, none, []⟩,
 ⟨(some 11), .p (.move (.t 74)), none, none, []⟩,
 ⟨(some 12), .p (.move (.t 75)), none, none, []⟩])
 (.seq (.region 0 [⟨(some 77), .load true 7 (.t 9), none, none, []⟩,
 ⟨(some 78), .load true 3 (.t 4), none, none, []⟩,
 ⟨(some 79), .call 3 52 [(.t 77), (.t 78)], none, none, []⟩,
 ⟨(some 76), .p (.move (.t 79)), none, none, []⟩,
 ⟨(some 80), .p (.extract (.t 76) 0), none, none, []⟩,
 ⟨(some 81), .p (.extract (.t 76) 1), none, none, []⟩,
 ⟨(some 13), .p (.move (.t 80)), none, none, []⟩,
 ⟨(some 14), .p (.move (.t 81)), none, none, []⟩])
 (.seq (.region 0 [⟨(some 83), .load true 7 (.t 10), none, none, []⟩,
 ⟨(some 84), .load true 3 (.t 4), none, none, []⟩,
 ⟨(some 85), .call 3 52 [(.t 83), (.t 84)], none, none, []⟩,
 ⟨(some 82), .p (.move (.t 85)), none, none, []⟩,
 ⟨(some 86), .p (.extract (.t 82) 0), none, none, []⟩,
 ⟨(some 87), .p (.extract (.t 82) 1), none, none, []⟩,
 ⟨(some 15), .p (.move (.t 86)), none, none, []⟩,
 ⟨(some 16), .p (.move (.t 87)), none, none, []⟩])
 (.seq (.seq (.region 0 [⟨(some 88), .p (.move (.t 12)), none, none, []⟩,
 ⟨(some 89), .p (.un .not (.t 88)), none, none, []⟩,
 ⟨(some 90), .p (.move (.t 89)), none, none, []⟩,
 ⟨(some 91), .p (.move (.t 14)), (some (90, false)), none, []⟩,
 ⟨(some 92), .p (.un .not (.t 91)), (some (90, false)), none, []⟩,
 ⟨(some 93), .p (.pick (.t 90) (.c (.bool true)) (.t 92)), none, none, []⟩,
 ⟨(some 94), .p (.move (.t 93)), none, none, []⟩,
 ⟨(some 95), .p (.move (.t 16)), (some (94, false)), none, []⟩,
 ⟨(some 96), .p (.un .not (.t 95)), (some (94, false)), none, []⟩,
 ⟨(some 97), .p (.pick (.t 94) (.c (.bool true)) (.t 96)), none, none, []⟩,
 ⟨(some 98), .p (.move (.t 97)), none, none, []⟩,
 ⟨(some 99), .p (.move (.t 11)), (some (98, false)), none, []⟩,
 ⟨(some 100), .p (.lenS (.t 99)), (some (98, false)), none, []⟩,
 ⟨(some 101), .p (.move (.t 13)), (some (98, false)), none, []⟩,
 ⟨(some 102), .p (.lenS (.t 101)), (some (98, false)), none, []⟩,
 ⟨(some 103), .p (.move (.t 15)), (some (98, false)), none, []⟩,
 ⟨(some 104), .p (.lenS (.t 103)), (some (98, false)), none, []⟩,
 ⟨(some 105), .p (.bin .add (.t 102) (.t 104)), (some (98, false)), none, []⟩,
 ⟨(some 106), .p (.bin .neq (.t 100) (.t 105)), (some (98, false)), none, []⟩,
 ⟨(some 107), .p (.pick (.t 98) (.c (.bool true)) (.t 106)), none, none, []⟩])
 (.cond (.t 107) (.seq (.region 0 [⟨(some 6), .p (.move (.c (.bool false))), none, none, []⟩])
 (.ret))
 (.skip)))
 (.seq (.seq (.region 0 [⟨(some 17), .p (.move (.c (.int .i64 0))), none, none, []⟩])
 (.block 0 (.loop (.seq (.seq (.region 0 [⟨(some 108), .p (.move (.t 17)), none, none, []⟩,
 ⟨(some 109), .p (.move (.t 11)), none, none, []⟩,
 ⟨(some 110), .p (.lenS (.t 109)), none, none, []⟩,
 ⟨(some 111), .p (.bin .lss (.t 108) (.t 110)), none, none, []⟩])
 (.cond (.t 111) (.skip)
 (.exit 0)))
 (.seq (.block 1 (.seq (.region 0 [⟨(some 114), .p (.move (.t 17)), none, none, []⟩,
 ⟨(some 115), .p (.move (.t 13)), none, none, []⟩,
 ⟨(some 116), .p (.lenS (.t 115)), none, none, []⟩,
 ⟨(some 117), .p (.bin .lss (.t 114) (.t 116)), none, none, []⟩,
 ⟨(some 118), .p (.move (.t 117)), none, none, []⟩,
 ⟨(some 119), .p (.move (.t 11)), (some (118, true)), none, []⟩,
 ⟨(some 120), .p (.move (.t 17)), (some (118, true)), none, []⟩,
 ⟨(some 121), .p (.idxSl 1 (.t 119) (.t 120)), (some (118, true)), none, []⟩,
 ⟨(some 122), .load false 1 (.t 121), (some (118, true)), none, []⟩,
 ⟨(some 123), .p (.move (.t 13)), (some (118, true)), none, []⟩,
 ⟨(some 124), .p (.move (.t 17)), (some (118, true)), none, []⟩,
 ⟨(some 125), .p (.idxSl 1 (.t 123) (.t 124)), (some (118, true)), none, []⟩,
 ⟨(some 126), .load false 1 (.t 125), (some (118, true)), none, []⟩,
 ⟨(some 127), .p (.bin .neq (.t 122) (.t 126)), (some (118, true)), none, []⟩,
 ⟨(some 128), .p (.pick (.t 118) (.t 127) (.c (.bool false))), none, none, []⟩,
 ⟨(some 129), .p (.move (.t 128)), none, none, []⟩,
 ⟨(some 130), .p (.move (.t 17)), (some (129, false)), none, []⟩,
 ⟨(some 131), .p (.move (.t 13)), (some (129, false)), none, []⟩,
 ⟨(some 132), .p (.lenS (.t 131)), (some (129, false)), none, []⟩,
 ⟨(some 133), .p (.bin .geq (.t 130) (.t 132)), (some (129, false)), none, []⟩,
 ⟨(some 134), .p (.move (.t 133)), (some (129, false)), none, []⟩,
 ⟨(some 135), .p (.move (.t 11)), (some (134, true)), none, []⟩,
 ⟨(some 136), .p (.move (.t 17)), (some (134, true)), none, []⟩,
 ⟨(some 137), .p (.idxSl 1 (.t 135) (.t 136)), (some (134, true)), none, []⟩,
 ⟨(some 138), .load false 1 (.t 137), (some (134, true)), none, []⟩,
 ⟨(some 139), .p (.move (.t 15)), (some (134, true)), none, []⟩,
 ⟨(some 140), .p (.move (.t 17)), (some (134, true)), none, []⟩,
 ⟨(some 141), .p (.move (.t 13)), (some (134, true)), none, []⟩,
 ⟨(some 142), .p (.lenS (.t 141)), (some (134, true)), none, []⟩,
 ⟨(some 143), .p (.bin .sub (.t 140) (.t 142)), (some (134, true)), none, []⟩,
 ⟨(some 144), .p (.idxSl 1 (.t 139) (.t 143)), (some (134, true)), none, []⟩,
 ⟨(some 145), .load false 1 (.t 144), (some (134, true)), none, []⟩,
 ⟨(some 146), .p (.move (.t 2)), (some (134, true)), none, []⟩,
 ⟨(some 147), .p (.bin .add (.t 145) (.t 146)), (some (134, true)), none, []⟩,
 ⟨(some 148), .p (.bin .add (.t 147) (.c (.int .i64 1))), (some (134, true)), none, []⟩,
 ⟨(some 149), .p (.bin .neq (.t 138) (.t 148)), (some (134, true)), none, []⟩,
 ⟨(some 150), .p (.pick (.t 134) (.t 149) (.c (.bool false))), (some (129, false)), none, []⟩,
 ⟨(some 151), .p (.pick (.t 129) (.c (.bool true)) (.t 150)), none, none, []⟩])
 (.cond (.t 151) (.seq (.region 0 [⟨(some 6), .p (.move (.c (.bool false))), none, none, []⟩])
 (.ret))
 (.skip))))
 (.region 0 [⟨(some 112), .p (.move (.t 17)), none, none, []⟩,
 ⟨(some 113), .p (.bin .add (.t 112) (.c (.int .i64 1))), none, none, []⟩,
 ⟨(some 17), .p (.move (.t 113)), none, none, []⟩]))))))
 (.seq (.region 0 [⟨(some 152), .call 1 16 [], none, none, []⟩,
 ⟨(some 6), .p (.move (.t 152)), none, none, []⟩])
 (.ret)))))))))))))))⟩
/-- almadraba/almadrabalaw02.Huge -/
def f15 : AFn := ⟨27, [.tmp 4],
 .seq (.region 0 [⟨(some 2), .box (.t 0), none, none, []⟩,
 ⟨(some 3), .box (.t 1), none, none, []⟩,
 ⟨(some 4), .p (.move (.c (.bool false))), none, none, []⟩])
 (.seq (.region 0 [⟨(some 5), .p (.fieldAddr 4 (.t 2)), none, none, []⟩,
 ⟨(some 6), .load false 1 (.t 5), none, none, []⟩,
 ⟨(some 7), .p (.lenS (.t 6)), none, none, []⟩,
 ⟨(some 8), .p (.bin .gtr (.t 7) (.c (.int .i64 40))), none, none, []⟩,
 ⟨(some 9), .p (.move (.t 8)), none, none, []⟩,
 ⟨(some 10), .p (.fieldAddr 5 (.t 2)), (some (9, false)), none, []⟩,
 ⟨(some 11), .load false 1 (.t 10), (some (9, false)), none, []⟩,
 ⟨(some 12), .p (.lenS (.t 11)), (some (9, false)), none, []⟩,
 ⟨(some 13), .p (.bin .gtr (.t 12) (.c (.int .i64 40))), (some (9, false)), none, []⟩,
 ⟨(some 14), .p (.pick (.t 9) (.c (.bool true)) (.t 13)), none, none, []⟩,
 ⟨(some 15), .p (.move (.t 14)), none, none, []⟩,
 ⟨(some 16), .p (.fieldAddr 6 (.t 2)), (some (15, false)), none, []⟩,
 ⟨(some 17), .load false 1 (.t 16), (some (15, false)), none, []⟩,
 ⟨(some 18), .p (.lenS (.t 17)), (some (15, false)), none, []⟩,
 ⟨(some 19), .p (.bin .gtr (.t 18) (.c (.int .i64 40))), (some (15, false)), none, []⟩,
 ⟨(some 20), .p (.pick (.t 15) (.c (.bool true)) (.t 19)), none, none, []⟩,
 ⟨(some 21), .p (.move (.t 20)), none, none, []⟩,
 ⟨(some 22), .p (.fieldAddr 2 (.t 3)), (some (21, false)), none, []⟩,
 ⟨(some 23), .load false 1 (.t 22), (some (21, false)), none, []⟩,
 ⟨(some 24), .p (.lenS (.t 23)), (some (21, false)), none, []⟩,
 ⟨(some 25), .p (.bin .gtr (.t 24) (.c (.int .i64 40))), (some (21, false)), none, []⟩,
 ⟨(some 26), .p (.pick (.t 21) (.c (.bool true)) (.t 25)), none, none, []⟩,
 ⟨(some 4), .p (.move (.t 26)), none, none, []⟩])
 (.ret))⟩
/-- almadraba/almadrabalaw02.works -/
def f16 : AFn := ⟨86, [.tmp 0],
 .seq (.region 0 [⟨(some 0), .p (.move (.c (.bool false))), none, none, []⟩])
 (.seq (.region 0 [⟨(some 15), .call 1 64 [], none, none, []⟩,
 ⟨(some 14), .p (.move (.t 15)), none, none, []⟩,
 ⟨(some 16), .p (.extract (.t 14) 0), none, none, []⟩,
 ⟨(some 17), .p (.extract (.t 14) 1), none, none, []⟩,
 ⟨(some 18), .p (.extract (.t 14) 2), none, none, []⟩,
 ⟨(some 1), .alloc [.int .i64 0, .int .i64 0, .int .i64 0, .int .i64 0, .nils, .nils, .nils], none, none, []⟩,
 ⟨(some 2), .alloc [.int .i64 0, .int .i64 0, .nils], none, none, []⟩,
 ⟨(some 3), .alloc [.int .i64 0, .int .i64 0, .nils], none, none, []⟩,
 ⟨none, .store 7 (.t 1) (.t 16), none, none, []⟩,
 ⟨none, .store 3 (.t 2) (.t 17), none, none, []⟩,
 ⟨none, .store 3 (.t 3) (.t 18), none, none, []⟩])
 (.seq (.region 0 [⟨(some 20), .load true 7 (.t 1), none, none, []⟩,
 ⟨(some 21), .load true 3 (.t 2), none, none, []⟩,
 ⟨(some 22), .call 1 28 [(.t 20), (.t 21)], none, none, []⟩,
 ⟨(some 19), .p (.move (.t 22)), none, none, []⟩,
 ⟨(some 23), .p (.extract (.t 19) 0), none, none, []⟩,
 ⟨(some 24), .p (.extract (.t 19) 1), none, none, []⟩,
 ⟨(some 4), .p (.move (.t 23)), none, none, []⟩,
 ⟨(some 5), .p (.move (.t 24)), none, none, []⟩])
 (.seq (.region 0 [⟨(some 26), .load true 7 (.t 1), none, none, []⟩,
 ⟨(some 27), .call 1 41 [(.t 26), (.c (.int .i64 1))], none, none, []⟩,
 ⟨(some 25), .p (.move (.t 27)), none, none, []⟩,
 ⟨(some 28), .p (.extract (.t 25) 0), none, none, []⟩,
 ⟨(some 29), .p (.extract (.t 25) 1), none, none, []⟩,
 ⟨(some 6), .alloc [.int .i64 0, .int .i64 0], none, none, []⟩,
 ⟨none, .store 2 (.t 6) (.t 28), none, none, []⟩,
 ⟨(some 7), .p (.move (.t 29)), none, none, []⟩])
 (.seq (.region 0 [⟨(some 31), .load true 7 (.t 1), none, none, []⟩,
 ⟨(some 32), .call 1 43 [(.t 31)], none, none, []⟩,
 ⟨(some 30), .p (.move (.t 32)), none, none, []⟩,
 ⟨(some 33), .p (.extract (.t 30) 0), none, none, []⟩,
 ⟨(some 34), .p (.extract (.t 30) 1), none, none, []⟩,
 ⟨(some 8), .p (.move (.t 33)), none, none, []⟩,
 ⟨(some 9), .p (.move (.t 34)), none, none, []⟩])
 (.seq (.region 0 [⟨(some 36), .load true 7 (.t 1), none, none, []⟩,
 ⟨(some 37), .call 1 45 [(.t 36)], none, none, []⟩,
 ⟨(some 35), .p (.move (.t 37)), none, none, []⟩,
 ⟨(some 38), .p (.extract (.t 35) 0), none, none, []⟩,
 ⟨(some 39), .p (.extract (.t 35) 1), none, none, []⟩,
 ⟨(some 10), .p (.move (.t 38)), none, none, []⟩,
 ⟨(some 11), .p (.move (.t 39)), none, none, []⟩])
 (.seq (.region 0 [⟨(some 41), .load true 7 (.t 1), none, none, []⟩,
 ⟨(some 42), .call 1 49 [(.t 41)], none, none, []⟩,
 ⟨(some 40), .p (.move (.t 42)), none, none, []⟩,
 ⟨(some 43), .p (.extract (.t 40) 0), none, none, []⟩,
 ⟨(some 44), .p (.extract (.t 40) 1), none, none, []⟩,
 ⟨(some 12), .p (.move (.t 43)), none, none, []⟩,
 ⟨(some 13), .p (.move (.t 44)), none, none, []⟩])
 (.seq (.region 0 [⟨(some 45), .p (.move (.t 5)), none, none, []⟩,
 ⟨(some 46), .p (.bin .eql (.t 45) (.c (.int .i64 0))), none, none, []⟩,
 ⟨(some 47), .p (.move (.t 46)), none, none, []⟩,
 ⟨(some 48), .p (.move (.t 7)), (some (47, true)), none, []⟩,
 ⟨(some 49), .p (.bin .eql (.t 48) (.c (.int .i64 0))), (some (47, true)), none, []⟩,
 ⟨(some 50), .p (.pick (.t 47) (.t 49) (.c (.bool false))), none, none, []⟩,
 ⟨(some 51), .p (.move (.t 50)), none, none, []⟩,
 ⟨(some 52), .p (.move (.t 9)), (some (51, true)), none, []⟩,
 ⟨(some 53), .p (.bin .eql (.t 52) (.c (.int .i64 0))), (some (51, true)), none, []⟩,
 ⟨(some 54), .p (.pick (.t 51) (.t 53) (.c (.bool false))), none, none, []⟩,
 ⟨(some 55), .p (.move (.t 54)), none, none, []⟩,
 ⟨(some 56), .p (.move (.t 11)), (some (55, true)), none, []⟩,
 ⟨(some 57), .p (.bin .eql (.t 56) (.c (.int .i64 0))), (some (55, true)), none, []⟩,
 ⟨(some 58), .p (.pick (.t 55) (.t 57) (.c (.bool false))), none, none, []⟩,
 ⟨(some 59), .p (.move (.t 58)), none, none, []⟩,
 ⟨(some 60), .p (.move (.t 13)), (some (59, true)), none, []⟩,
 ⟨(some 61), .p (.bin .eql (.t 60) (.c (.int .i64 0))), (some (59, true)), none, []⟩,
 ⟨(some 62), .p (.pick (.t 59) (.t 61) (.c (.bool false))), none, none, []⟩,
 ⟨(some 63), .p (.move (.t 62)), none, none, []⟩,
 ⟨(some 64), .p (.move (.t 4)), (some (63, true)), none, []⟩,
 ⟨(some 65), .litS 1 2 [.int .i64 0] [(0, (.c (.int .i64 1))), (1, (.c (.int .i64 2)))], (some (63, true)), none, []⟩,
 ⟨(some 66), .call 1 30 [(.t 64), (.t 65)], (some (63, true)), none, []⟩,
 ⟨(some 67), .p (.pick (.t 63) (.t 66) (.c (.bool false))), none, none, []⟩,
 ⟨(some 68), .p (.move (.t 67)), none, none, []⟩,
 ⟨(some 69), .load true 2 (.t 6), (some (68, true)), none, []⟩,
 ⟨(some 70), .p (.build [.int .i64 0, .int .i64 0] [(0, 1, (.c (.int .i64 (-11)))), (1, 1, (.c (.int .i64 31)))]), (some (68, true)), none, []⟩,
 ⟨(some 71), .p (.eqS false [true, true] (.t 69) (.t 70)), (some (68, true)), none, []⟩,
 ⟨(some 72), .p (.pick (.t 68) (.t 71) (.c (.bool false))), none, none, []⟩,
 ⟨(some 73), .p (.move (.t 72)), none, none, []⟩,
 ⟨(some 74), .p (.move (.t 8)), (some (73, true)), none, []⟩,
 ⟨(some 75), .p (.bin .eql (.t 74) (.c (.int .i64 1))), (some (73, true)), none, []⟩,
 ⟨(some 76), .p (.pick (.t 73) (.t 75) (.c (.bool false))), none, none, []⟩,
 ⟨(some 77), .p (.move (.t 76)), none, none, []⟩,
 ⟨(some 78), .p (.move (.t 10)), (some (77, true)), none, []⟩,
 ⟨(some 79), .p (.bin .eql (.t 78) (.c (.int .i64 13))), (some (77, true)), none, []⟩,
 ⟨(some 80), .p (.pick (.t 77) (.t 79) (.c (.bool false))), none, none, []⟩,
 ⟨(some 81), .p (.move (.t 80)), none, none, []⟩,
 ⟨(some 82), .p (.move (.t 12)), (some (81, true)), none, []⟩,
 ⟨(some 83), .litS 1 3 [.int .i64 0] [(0, (.c (.int .i64 0))), (1, (.c (.int .i64 6))), (2, (.c (.int .i64 0)))], (some (81, true)), none, []⟩,
 ⟨(some 84), .call 1 30 [(.t 82), (.t 83)], (some (81, true)), none, []⟩,
 ⟨(some 85), .p (.pick (.t 81) (.t 84) (.c (.bool false))), none, none, []⟩,
 ⟨(some 0), .p (.move (.t 85)), none, none, []⟩])
 (.ret))))))))⟩
/-- almadraba/almadrabaref02.Copy -/
def f17 : AFn := ⟨21, [.cell true 7 2],
 .seq (.region 0 [⟨(some 1), .box (.t 0), none, none, []⟩,
 ⟨(some 2), .alloc [.int .i64 0, .int .i64 0, .int .i64 0, .int .i64 0, .nils, .nils, .nils], none, none, []⟩])
 (.seq (.region 0 [⟨(some 4), .load true 7 (.t 1), none, none, []⟩,
 ⟨(some 3), .alloc [.int .i64 0, .int .i64 0, .int .i64 0, .int .i64 0, .nils, .nils, .nils], none, none, []⟩,
 ⟨none, .store 7 (.t 3) (.t 4), none, none, []⟩])
 (.seq (.region 0 [⟨(some 5), .buildSlice 2 0 [.int .i64 0, .int .i64 0] [], none, none, []⟩,
 ⟨(some 6), .p (.fieldAddr 4 (.t 1)), none, none, []⟩,
 ⟨(some 7), .load false 1 (.t 6), none, none, []⟩,
 ⟨(some 8), .append false 2 16 (.t 5) (.t 7), none, none, []⟩,
 ⟨(some 9), .p (.fieldAddr 4 (.t 3)), none, none, []⟩,
 ⟨none, .store 1 (.t 9) (.t 8), none, none, []⟩])
 (.seq (.region 0 [⟨(some 10), .buildSlice 2 0 [.int .i64 0, .int .i64 0] [], none, none, []⟩,
 ⟨(some 11), .p (.fieldAddr 5 (.t 1)), none, none, []⟩,
 ⟨(some 12), .load false 1 (.t 11), none, none, []⟩,
 ⟨(some 13), .append false 2 16 (.t 10) (.t 12), none, none, []⟩,
 ⟨(some 14), .p (.fieldAddr 5 (.t 3)), none, none, []⟩,
 ⟨none, .store 1 (.t 14) (.t 13), none, none, []⟩])
 (.seq (.region 0 [⟨(some 15), .buildSlice 5 0 [.int .i64 0, .int .i64 0, .int .i64 0, .int .i64 0, .int .i64 0] [], none, none, []⟩,
 ⟨(some 16), .p (.fieldAddr 6 (.t 1)), none, none, []⟩,
 ⟨(some 17), .load false 1 (.t 16), none, none, []⟩,
 ⟨(some 18), .append false 5 40 (.t 15) (.t 17), none, none, []⟩,
 ⟨(some 19), .p (.fieldAddr 6 (.t 3)), none, none, []⟩,
 ⟨none, .store 1 (.t 19) (.t 18), none, none, []⟩])
 (.seq (.region 0 [⟨(some 20), .load true 7 (.t 3), none, none, []⟩,
 ⟨none, .store 7 (.t 2) (.t 20), none, none, []⟩])
 (.ret))))))⟩
/-- almadraba/anchors.Check -/
def f18 : AFn := ⟨6, [.tmp 2],
 .seq (.region 0 [⟨(some 1), .box (.t 0), none, none, []⟩,
 ⟨(some 2), .p (.move (.c (.int .i64 0))), none, none, []⟩])
 (.seq (.seq (.region 0 [⟨(some 3), .load true 7 (.t 1), none, none, []⟩,
 ⟨(some 4), .call 1 65 [(.t 3)], none, none, []⟩,
 ⟨(some 5), .p (.un .not (.t 4)), none, none, []⟩])
 (.cond (.t 5) (.seq (.region 0 [⟨(some 2), .p (.move (.c (.int .i64 20))), none, none, []⟩])
 (.ret))
 (.skip)))
 (.seq (.region 0 [⟨(some 2), .p (.move (.c (.int .i64 0))), none, none, []⟩])
 (.ret)))⟩
/-- almadraba/almadrabaref02.Check -/
def f19 : AFn := ⟨123, [.tmp 2],
 .seq (.region 0 [⟨(some 1), .box (.t 0), none, none, []⟩,
 ⟨(some 2), .p (.move (.c (.int .i64 0))), none, none, []⟩])
 (.seq (.seq (.region 0 [⟨(some 7), .p (.fieldAddr 0 (.t 1)), none, none, []⟩,
 ⟨(some 8), .load true 2 (.t 7), none, none, []⟩,
 ⟨(some 9), .call 1 66 [(.t 8), (.c (.int .i64 20))], none, none, []⟩,
 ⟨(some 10), .p (.un .not (.t 9)), none, none, []⟩,
 ⟨(some 11), .p (.move (.t 10)), none, none, []⟩,
 ⟨(some 12), .p (.fieldAddr 2 (.t 1)), (some (11, false)), none, []⟩,
 ⟨(some 13), .load true 2 (.t 12), (some (11, false)), none, []⟩,
 ⟨(some 14), .call 1 66 [(.t 13), (.c (.int .i64 20))], (some (11, false)), none, []⟩,
 ⟨(some 15), .p (.un .not (.t 14)), (some (11, false)), none, []⟩,
 ⟨(some 16), .p (.pick (.t 11) (.c (.bool true)) (.t 15)), none, none, []⟩,
 ⟨(some 17), .p (.move (.t 16)), none, none, []⟩,
 ⟨(some 18), .p (.fieldAddr 4 (.t 1)), (some (17, false)), none, []⟩,
 ⟨(some 19), .load false 1 (.t 18), (some (17, false)), none, []⟩,
 ⟨(some 20), .p (.lenS (.t 19)), (some (17, false)), none, []⟩,
 ⟨(some 21), .p (.bin .gtr (.t 20) (.c (.int .i64 3))), (some (17, false)), none, []⟩,
 ⟨(some 22), .p (.pick (.t 17) (.c (.bool true)) (.t 21)), none, none, []⟩,
 ⟨(some 23), .p (.move (.t 22)), none, none, []⟩,
 ⟨(some 24), .p (.fieldAddr 5 (.t 1)), (some (23, false)), none, []⟩,
 ⟨(some 25), .load false 1 (.t 24), (some (23, false)), none, []⟩,
 ⟨(some 26), .p (.lenS (.t 25)), (some (23, false)), none, []⟩,
 ⟨(some 27), .p (.bin .gtr (.t 26) (.c (.int .i64 6))), (some (23, false)), none, []⟩,
 ⟨(some 28), .p (.pick (.t 23) (.c (.bool true)) (.t 27)), none, none, []⟩,
 ⟨(some 29), .p (.move (.t 28)), none, none, []⟩,
 ⟨(some 30), .p (.fieldAddr 6 (.t 1)), (some (29, false)), none, []⟩,
 ⟨(some 31), .load false 1 (.t 30), (some (29, false)), none, []⟩,
 ⟨(some 32), .p (.lenS (.t 31)), (some (29, false)), none, []⟩,
 ⟨(some 33), .p (.fieldAddr 5 (.t 1)), (some (29, false)), none, []⟩,
 ⟨(some 34), .load false 1 (.t 33), (some (29, false)), none, []⟩,
 ⟨(some 35), .p (.lenS (.t 34)), (some (29, false)), none, []⟩,
 ⟨(some 36), .p (.bin .sub (.t 35) (.c (.int .i64 1))), (some (29, false)), none, []⟩,
 ⟨(some 37), .p (.minmax true (.c (.int .i64 0)) [(.t 36)]), (some (29, false)), none, []⟩,
 ⟨(some 38), .p (.bin .neq (.t 32) (.t 37)), (some (29, false)), none, []⟩,
 ⟨(some 39), .p (.pick (.t 29) (.c (.bool true)) (.t 38)), none, none, []⟩])
 (.cond (.t 39) (.seq (.region 0 [⟨(some 2), .p (.move (.c (.int .i64 20))), none, none, []⟩])
 (.ret))
 (.skip)))
 (.seq (.seq (.region 0 [⟨(some 3), .p (.move (.c (.int .i64 0))), none, none, []⟩])
 (.block 0 (.loop (.seq (.seq (.region 0 [⟨(some 40), .p (.move (.t 3)), none, none, []⟩,
 ⟨(some 41), .p (.fieldAddr 4 (.t 1)), none, none, []⟩,
 ⟨(some 42), .load false 1 (.t 41), none, none, []⟩,
 ⟨(some 43), .p (.lenS (.t 42)), none, none, []⟩,
 ⟨(some 44), .p (.bin .lss (.t 40) (.t 43)), none, none, []⟩])
 (.cond (.t 44) (.skip)
 (.exit 0)))
 (.seq (.block 1 (.seq (.region 0 [⟨(some 47), .p (.fieldAddr 4 (.t 1)), none, none, []⟩,
 ⟨(some 48), .load false 1 (.t 47), none, none, []⟩,
 ⟨(some 49), .p (.move (.t 3)), none, none, []⟩,
 ⟨(some 50), .p (.idxSl 2 (.t 48) (.t 49)), none, none, []⟩,
 ⟨(some 51), .load true 2 (.t 50), none, none, []⟩,
 ⟨(some 52), .call 1 66 [(.t 51), (.c (.int .i64 9))], none, none, []⟩,
 ⟨(some 53), .p (.un .not (.t 52)), none, none, []⟩])
 (.cond (.t 53) (.seq (.region 0 [⟨(some 2), .p (.move (.c (.int .i64 20))), none, none, []⟩])
 (.ret))
 (.skip))))
 (.region 0 [⟨(some 45), .p (.move (.t 3)), none, none, []⟩,
 ⟨(some 46), .p (.bin .add (.t 45) (.c (.int .i64 1))), none, none, []⟩,
 ⟨(some 3), .p (.move (.t 46)), none, none, []⟩]))))))
 (.seq (.seq (.region 0 [⟨(some 4), .p (.move (.c (.int .i64 0))), none, none, []⟩])
 (.block 2 (.loop (.seq (.seq (.region 0 [⟨(some 54), .p (.move (.t 4)), none, none, []⟩,
 ⟨(some 55), .p (.fieldAddr 5 (.t 1)), none, none, []⟩,
 ⟨(some 56), .load false 1 (.t 55), none, none, []⟩,
 ⟨(some 57), .p (.lenS (.t 56)), none, none, []⟩,
 ⟨(some 58), .p (.bin .lss (.t 54) (.t 57)), none, none, []⟩])
 (.cond (.t 58) (.skip)
 (.exit 2)))
 (.seq (.block 3 (.seq (.region 0 [⟨(some 61), .p (.fieldAddr 5 (.t 1)), none, none, []⟩,
 ⟨(some 62), .load false 1 (.t 61), none, none, []⟩,
 ⟨(some 63), .p (.move (.t 4)), none, none, []⟩,
 ⟨(some 64), .p (.idxSl 2 (.t 62) (.t 63)), none, none, []⟩,
 ⟨(some 65), .p (.fieldAddr 0 (.t 64)), none, none, []⟩,
 ⟨(some 66), .load false 1 (.t 65), none, none, []⟩,
 ⟨(some 67), .call 1 67 [(.t 66), (.c (.int .i64 0)), (.c (.int .i64 20))], none, none, []⟩,
 ⟨(some 68), .p (.un .not (.t 67)), none, none, []⟩,
 ⟨(some 69), .p (.move (.t 68)), none, none, []⟩,
 ⟨(some 70), .p (.fieldAddr 5 (.t 1)), (some (69, false)), none, []⟩,
 ⟨(some 71), .load false 1 (.t 70), (some (69, false)), none, []⟩,
 ⟨(some 72), .p (.move (.t 4)), (some (69, false)), none, []⟩,
 ⟨(some 73), .p (.idxSl 2 (.t 71) (.t 72)), (some (69, false)), none, []⟩,
 ⟨(some 74), .p (.fieldAddr 1 (.t 73)), (some (69, false)), none, []⟩,
 ⟨(some 75), .load false 1 (.t 74), (some (69, false)), none, []⟩,
 ⟨(some 76), .p (.fieldAddr 4 (.t 1)), (some (69, false)), none, []⟩,
 ⟨(some 77), .load false 1 (.t 76), (some (69, false)), none, []⟩,
 ⟨(some 78), .p (.lenS (.t 77)), (some (69, false)), none, []⟩,
 ⟨(some 79), .p (.bin .sub (.t 78) (.c (.int .i64 1))), (some (69, false)), none, []⟩,
 ⟨(some 80), .call 1 67 [(.t 75), (.c (.int .i64 0)), (.t 79)], (some (69, false)), none, []⟩,
 ⟨(some 81), .p (.un .not (.t 80)), (some (69, false)), none, []⟩,
 ⟨(some 82), .p (.pick (.t 69) (.c (.bool true)) (.t 81)), none, none, []⟩])
 (.cond (.t 82) (.seq (.region 0 [⟨(some 2), .p (.move (.c (.int .i64 20))), none, none, []⟩])
 (.ret))
 (.skip))))
 (.region 0 [⟨(some 59), .p (.move (.t 4)), none, none, []⟩,
 ⟨(some 60), .p (.bin .add (.t 59) (.c (.int .i64 1))), none, none, []⟩,
 ⟨(some 4), .p (.move (.t 60)), none, none, []⟩]))))))
 (.seq (.seq (.region 0 [⟨(some 5), .p (.move (.c (.int .i64 0))), none, none, []⟩])
 (.block 4 (.loop (.seq (.seq (.region 0 [⟨(some 83), .p (.move (.t 5)), none, none, []⟩,
 ⟨(some 84), .p (.fieldAddr 6 (.t 1)), none, none, []⟩,
 ⟨(some 85), .load false 1 (.t 84), none, none, []⟩,
 ⟨(some 86), .p (.lenS (.t 85)), none, none, []⟩,
 ⟨(some 87), .p (.bin .lss (.t 83) (.t 86)), none, none, []⟩])
 (.cond (.t 87) (.skip)
 (.exit 4)))
 (.seq (.block 5 (.seq (.region 0 [⟨(some 90), .p (.fieldAddr 6 (.t 1)), none, none, []⟩,
 ⟨(some 91), .load false 1 (.t 90), none, none, []⟩,
 ⟨(some 92), .p (.move (.t 5)), none, none, []⟩,
 ⟨(some 93), .p (.idxSl 5 (.t 91) (.t 92)), none, none, []⟩,
 ⟨(some 94), .load true 5 (.t 93), none, none, []⟩,
 ⟨(some 6), .alloc [.int .i64 0, .int .i64 0, .int .i64 0, .int .i64 0, .int .i64 0], none, none, []⟩,
 ⟨none, .store 5 (.t 6) (.t 94), none, none, []⟩])
 (.seq (.region 0 [⟨(some 95), .p (.fieldAddr 0 (.t 6)), none, none, []⟩,
 ⟨(some 96), .load false 1 (.t 95), none, none, []⟩,
 ⟨(some 97), .call 1 67 [(.t 96), (.c (.int .i64 0)), (.c (.int .i64 9))], none, none, []⟩,
 ⟨(some 98), .p (.un .not (.t 97)), none, none, []⟩,
 ⟨(some 99), .p (.move (.t 98)), none, none, []⟩,
 ⟨(some 100), .p (.fieldAddr 1 (.t 6)), (some (99, false)), none, []⟩,
 ⟨(some 101), .load false 1 (.t 100), (some (99, false)), none, []⟩,
 ⟨(some 102), .call 1 67 [(.t 101), (.c (.int .i64 0)), (.c (.int .i64 9))], (some (99, false)), none, []⟩,
 ⟨(some 103), .p (.un .not (.t 102)), (some (99, false)), none, []⟩,
 ⟨(some 104), .p (.pick (.t 99) (.c (.bool true)) (.t 103)), none, none, []⟩,
 ⟨(some 105), .p (.move (.t 104)), none, none, []⟩,
 ⟨(some 106), .p (.fieldAddr 2 (.t 6)), (some (105, false)), none, []⟩,
 ⟨(some 107), .load false 1 (.t 106), (some (105, false)), none, []⟩,
 ⟨(some 108), .call 1 67 [(.t 107), (.c (.int .i64 0)), (.c (.int .i64 9))], (some (105, false)), none, []⟩,
 ⟨(some 109), .p (.un .not (.t 108)), (some (105, false)), none, []⟩,
 ⟨(some 110), .p (.pick (.t 105) (.c (.bool true)) (.t 109)), none, none, []⟩,
 ⟨(some 111), .p (.move (.t 110)), none, none, []⟩,
 ⟨(some 112), .p (.fieldAddr 3 (.t 6)), (some (111, false)), none, []⟩,
 ⟨(some 113), .load false 1 (.t 112), (some (111, false)), none, []⟩,
 ⟨(some 114), .call 1 67 [(.t 113), (.c (.int .i64 0)), (.c (.int .i64 99))], (some (111, false)), none, []⟩,
 ⟨(some 115), .p (.un .not (.t 114)), (some (111, false)), none, []⟩,
 ⟨(some 116), .p (.pick (.t 111) (.c (.bool true)) (.t 115)), none, none, []⟩,
 ⟨(some 117), .p (.move (.t 116)), none, none, []⟩,
 ⟨(some 118), .p (.fieldAddr 4 (.t 6)), (some (117, false)), none, []⟩,
 ⟨(some 119), .load false 1 (.t 118), (some (117, false)), none, []⟩,
 ⟨(some 120), .call 1 67 [(.t 119), (.c (.int .i64 0)), (.c (.int .i64 99))], (some (117, false)), none, []⟩,
 ⟨(some 121), .p (.un .not (.t 120)), (some (117, false)), none, []⟩,
 ⟨(some 122), .p (.pick (.t 117) (.c (.bool true)) (.t 121)), none, none, []⟩])
 (.cond (.t 122) (.seq (.region 0 [⟨(some 2), .p (.move (.c (.int .i64 20))), none, none, []⟩])
 (.ret))
 (.skip)))))
 (.region 0 [⟨(some 88), .p (.move (.t 5)), none, none, []⟩,
 ⟨(some 89), .p (.bin .add (.t 88) (.c (.int .i64 1))), none, none, []⟩,
 ⟨(some 5), .p (.move (.t 89)), none, none, []⟩]))))))
 (.seq (.region 0 [⟨(some 2), .p (.move (.c (.int .i64 0))), none, none, []⟩])
 (.ret))))))⟩
/-- almadraba/anchors.Load -/
def f20 : AFn := ⟨33, [.tmp 8, .tmp 9],
 .seq (.region 0 [⟨(some 4), .box (.t 0), none, none, []⟩,
 ⟨(some 8), .p (.move (.c (.int .i64 0))), none, none, []⟩,
 ⟨(some 9), .p (.move (.c (.int .i64 0))), none, none, []⟩])
 (.seq (.seq (.region 0 [⟨(some 11), .load true 7 (.t 4), none, none, []⟩,
 ⟨(some 12), .load true 7 (.t 4), none, none, []⟩,
 ⟨(some 13), .p (.move (.t 1)), none, none, []⟩,
 ⟨(some 14), .call 1 69 [(.t 12), (.t 13)], none, none, []⟩,
 ⟨(some 15), .p (.move (.t 14)), none, none, []⟩,
 ⟨(some 16), .p (.move (.t 2)), (some (15, true)), none, []⟩,
 ⟨(some 17), .p (.move (.t 3)), (some (15, true)), none, []⟩,
 ⟨(some 18), .litS 1 2 [.int .i64 0] [(0, (.t 16)), (1, (.t 17))], (some (15, true)), none, []⟩,
 ⟨(some 19), .call 1 70 [(.c (.int .i64 20)), (.t 18)], (some (15, true)), none, []⟩,
 ⟨(some 20), .p (.pick (.t 15) (.t 19) (.c (.bool false))), none, none, []⟩,
 ⟨(some 21), .call 1 68 [(.t 11), (.t 20)], none, none, []⟩,
 ⟨(some 10), .p (.move (.t 21)), none, none, []⟩])
 (.seq (.region 0 [⟨(some 22), .p (.move (.t 10)), none, none, []⟩,
 ⟨(some 23), .p (.bin .neq (.t 22) (.c (.int .i64 0))), none, none, []⟩])
 (.cond (.t 23) (.seq (.region 0 [⟨(some 24), .p (.move (.t 10)), none, none, []⟩,
 ⟨(some 8), .p (.move (.c (.int .i64 0))), none, none, []⟩,
 ⟨(some 9), .p (.move (.t 24)), none, none, []⟩])
 (.ret))
 (.skip))))
 (.seq (.region 0 [⟨(some 25), .p (.fieldAddr 6 (.t 4)), none, none, []⟩,
 ⟨(some 26), .load false 1 (.t 25), none, none, []⟩,
 ⟨(some 27), .p (.move (.t 1)), none, none, []⟩,
 ⟨(some 28), .p (.idxSl 5 (.t 26) (.t 27)), none, none, []⟩,
 ⟨(some 29), .load true 5 (.t 28), none, none, []⟩,
 ⟨(some 30), .p (.move (.t 2)), none, none, []⟩,
 ⟨(some 31), .p (.move (.t 3)), none, none, []⟩,
 ⟨(some 32), .call 1 71 [(.t 29), (.t 30), (.t 31)], none, none, []⟩,
 ⟨(some 8), .p (.move (.t 32)), none, none, []⟩,
 ⟨(some 9), .p (.move (.c (.int .i64 0))), none, none, []⟩])
 (.ret)))⟩
/-- almadraba/almadrabaref02.Load -/
def f21 : AFn := ⟨35, [.tmp 8, .tmp 9],
 .seq (.region 0 [⟨(some 4), .box (.t 0), none, none, []⟩,
 ⟨(some 8), .p (.move (.c (.int .i64 0))), none, none, []⟩,
 ⟨(some 9), .p (.move (.c (.int .i64 0))), none, none, []⟩])
 (.seq (.seq (.region 0 [⟨(some 11), .load true 7 (.t 4), none, none, []⟩,
 ⟨(some 12), .load true 7 (.t 4), none, none, []⟩,
 ⟨(some 13), .p (.move (.t 1)), none, none, []⟩,
 ⟨(some 14), .call 1 63 [(.t 12), (.t 13)], none, none, []⟩,
 ⟨(some 15), .p (.move (.t 14)), none, none, []⟩,
 ⟨(some 16), .p (.move (.t 2)), (some (15, true)), none, []⟩,
 ⟨(some 17), .call 1 73 [(.t 16)], (some (15, true)), none, []⟩,
 ⟨(some 18), .p (.pick (.t 15) (.t 17) (.c (.bool false))), none, none, []⟩,
 ⟨(some 19), .p (.move (.t 18)), none, none, []⟩,
 ⟨(some 20), .p (.move (.t 3)), (some (19, true)), none, []⟩,
 ⟨(some 21), .call 1 73 [(.t 20)], (some (19, true)), none, []⟩,
 ⟨(some 22), .p (.pick (.t 19) (.t 21) (.c (.bool false))), none, none, []⟩,
 ⟨(some 23), .call 1 72 [(.t 11), (.t 22)], none, none, []⟩,
 ⟨(some 10), .p (.move (.t 23)), none, none, []⟩])
 (.seq (.region 0 [⟨(some 24), .p (.move (.t 10)), none, none, []⟩,
 ⟨(some 25), .p (.bin .neq (.t 24) (.c (.int .i64 0))), none, none, []⟩])
 (.cond (.t 25) (.seq (.region 0 [⟨(some 26), .p (.move (.t 10)), none, none, []⟩,
 ⟨(some 8), .p (.move (.c (.int .i64 0))), none, none, []⟩,
 ⟨(some 9), .p (.move (.t 26)), none, none, []⟩])
 (.ret))
 (.skip))))
 (.seq (.region 0 [⟨(some 27), .p (.fieldAddr 6 (.t 4)), none, none, []⟩,
 ⟨(some 28), .load false 1 (.t 27), none, none, []⟩,
 ⟨(some 29), .p (.move (.t 1)), none, none, []⟩,
 ⟨(some 30), .p (.idxSl 5 (.t 28) (.t 29)), none, none, []⟩,
 ⟨(some 31), .load true 5 (.t 30), none, none, []⟩,
 ⟨(some 32), .p (.move (.t 2)), none, none, []⟩,
 ⟨(some 33), .p (.move (.t 3)), none, none, []⟩,
 ⟨(some 34), .call 1 74 [(.t 31), (.t 32), (.t 33)], none, none, []⟩,
 ⟨(some 8), .p (.move (.t 34)), none, none, []⟩,
 ⟨(some 9), .p (.move (.c (.int .i64 0))), none, none, []⟩])
 (.ret)))⟩
/-- almadraba/anchors.Upright -/
def f22 : AFn := ⟨34, [.tmp 4, .tmp 5],
 .seq (.region 0 [⟨(some 2), .box (.t 0), none, none, []⟩,
 ⟨(some 4), .p (.move (.c (.int .i64 0))), none, none, []⟩,
 ⟨(some 5), .p (.move (.c (.int .i64 0))), none, none, []⟩])
 (.seq (.seq (.region 0 [⟨(some 9), .load true 7 (.t 2), none, none, []⟩,
 ⟨(some 10), .load true 7 (.t 2), none, none, []⟩,
 ⟨(some 11), .p (.move (.t 1)), none, none, []⟩,
 ⟨(some 12), .call 1 69 [(.t 10), (.t 11)], none, none, []⟩,
 ⟨(some 13), .call 1 68 [(.t 9), (.t 12)], none, none, []⟩,
 ⟨(some 6), .p (.move (.t 13)), none, none, []⟩])
 (.seq (.region 0 [⟨(some 14), .p (.move (.t 6)), none, none, []⟩,
 ⟨(some 15), .p (.bin .neq (.t 14) (.c (.int .i64 0))), none, none, []⟩])
 (.cond (.t 15) (.seq (.region 0 [⟨(some 16), .p (.move (.t 6)), none, none, []⟩,
 ⟨(some 4), .p (.move (.c (.int .i64 0))), none, none, []⟩,
 ⟨(some 5), .p (.move (.t 16)), none, none, []⟩])
 (.ret))
 (.skip))))
 (.seq (.region 0 [⟨(some 17), .p (.fieldAddr 6 (.t 2)), none, none, []⟩,
 ⟨(some 18), .load false 1 (.t 17), none, none, []⟩,
 ⟨(some 19), .p (.move (.t 1)), none, none, []⟩,
 ⟨(some 20), .p (.idxSl 5 (.t 18) (.t 19)), none, none, []⟩,
 ⟨(some 21), .load true 5 (.t 20), none, none, []⟩,
 ⟨(some 7), .alloc [.int .i64 0, .int .i64 0, .int .i64 0, .int .i64 0, .int .i64 0], none, none, []⟩,
 ⟨none, .store 5 (.t 7) (.t 21), none, none, []⟩])
 (.seq (.region 0 [⟨(some 22), .p (.mkFn 75 [] [(.t 7)]), none, none, []⟩,
 ⟨(some 8), .p (.move (.t 22)), none, none, []⟩])
 (.seq (.region 0 [⟨(some 23), .p (.move (.t 8)), none, none, []⟩,
 ⟨(some 24), .p (.fieldAddr 2 (.t 2)), none, none, []⟩,
 ⟨(some 25), .p (.fieldAddr 1 (.t 24)), none, none, []⟩,
 ⟨(some 26), .load false 1 (.t 25), none, none, []⟩,
 ⟨(some 27), .callv true (.t 23) [(.t 26)], none, none, []⟩,
 ⟨(some 28), .p (.move (.t 8)), none, none, []⟩,
 ⟨(some 29), .p (.fieldAddr 2 (.t 2)), none, none, []⟩,
 ⟨(some 30), .p (.fieldAddr 0 (.t 29)), none, none, []⟩,
 ⟨(some 31), .load false 1 (.t 30), none, none, []⟩,
 ⟨(some 32), .callv true (.t 28) [(.t 31)], none, none, []⟩,
 ⟨(some 33), .call 1 76 [(.t 27), (.t 32)], none, none, []⟩,
 ⟨(some 4), .p (.move (.t 33)), none, none, []⟩,
 ⟨(some 5), .p (.move (.c (.int .i64 0))), none, none, []⟩])
 (.ret)))))⟩
/-- almadraba/almadrabaref02.Upright -/
def f23 : AFn := ⟨42, [.tmp 4, .tmp 5],
 .seq (.region 0 [⟨(some 2), .box (.t 0), none, none, []⟩,
 ⟨(some 4), .p (.move (.c (.int .i64 0))), none, none, []⟩,
 ⟨(some 5), .p (.move (.c (.int .i64 0))), none, none, []⟩])
 (.seq (.seq (.region 0 [⟨(some 10), .load true 7 (.t 2), none, none, []⟩,
 ⟨(some 11), .load true 7 (.t 2), none, none, []⟩,
 ⟨(some 12), .p (.move (.t 1)), none, none, []⟩,
 ⟨(some 13), .call 1 63 [(.t 11), (.t 12)], none, none, []⟩,
 ⟨(some 14), .call 1 72 [(.t 10), (.t 13)], none, none, []⟩,
 ⟨(some 6), .p (.move (.t 14)), none, none, []⟩])
 (.seq (.region 0 [⟨(some 15), .p (.move (.t 6)), none, none, []⟩,
 ⟨(some 16), .p (.bin .neq (.t 15) (.c (.int .i64 0))), none, none, []⟩])
 (.cond (.t 16) (.seq (.region 0 [⟨(some 17), .p (.move (.t 6)), none, none, []⟩,
 ⟨(some 4), .p (.move (.c (.int .i64 0))), none, none, []⟩,
 ⟨(some 5), .p (.move (.t 17)), none, none, []⟩])
 (.ret))
 (.skip))))
 (.seq (.region 0 [⟨(some 7), .p (.move (.c (.int .i64 0))), none, none, []⟩,
 ⟨(some 8), .p (.move (.c (.int .i64 0))), none, none, []⟩])
 (.seq (.seq (.region 0 [⟨(some 18), .p (.fieldAddr 2 (.t 2)), none, none, []⟩,
 ⟨(some 19), .p (.fieldAddr 0 (.t 18)), none, none, []⟩,
 ⟨(some 20), .load false 1 (.t 19), none, none, []⟩,
 ⟨(some 9), .p (.move (.t 20)), none, none, []⟩])
 (.block 0 (.loop (.seq (.seq (.region 0 [⟨(some 21), .p (.move (.t 9)), none, none, []⟩,
 ⟨(some 22), .p (.fieldAddr 2 (.t 2)), none, none, []⟩,
 ⟨(some 23), .p (.fieldAddr 1 (.t 22)), none, none, []⟩,
 ⟨(some 24), .load false 1 (.t 23), none, none, []⟩,
 ⟨(some 25), .p (.bin .leq (.t 21) (.t 24)), none, none, []⟩])
 (.cond (.t 25) (.skip)
 (.exit 0)))
 (.seq (.block 1 (.seq (.region 0 [⟨(some 28), .p (.move (.t 8)), none, none, []⟩,
 ⟨(some 29), .p (.bin .add (.t 28) (.c (.int .i64 1))), none, none, []⟩,
 ⟨(some 8), .p (.move (.t 29)), none, none, []⟩])
 (.seq (.region 0 [⟨(some 30), .p (.fieldAddr 6 (.t 2)), none, none, []⟩,
 ⟨(some 31), .load false 1 (.t 30), none, none, []⟩,
 ⟨(some 32), .p (.move (.t 1)), none, none, []⟩,
 ⟨(some 33), .p (.idxSl 5 (.t 31) (.t 32)), none, none, []⟩,
 ⟨(some 34), .load true 5 (.t 33), none, none, []⟩,
 ⟨(some 35), .p (.move (.t 9)), none, none, []⟩,
 ⟨(some 36), .call 1 77 [(.t 34), (.t 35)], none, none, []⟩])
 (.cond (.t 36) (.region 0 [⟨(some 37), .p (.move (.t 7)), none, none, []⟩,
 ⟨(some 38), .p (.bin .add (.t 37) (.c (.int .i64 1))), none, none, []⟩,
 ⟨(some 7), .p (.move (.t 38)), none, none, []⟩])
 (.skip)))))
 (.region 0 [⟨(some 26), .p (.move (.t 9)), none, none, []⟩,
 ⟨(some 27), .p (.bin .add (.t 26) (.c (.int .i64 1))), none, none, []⟩,
 ⟨(some 9), .p (.move (.t 27)), none, none, []⟩]))))))
 (.seq (.region 0 [⟨(some 39), .p (.move (.t 7)), none, none, []⟩,
 ⟨(some 40), .p (.move (.t 8)), none, none, []⟩,
 ⟨(some 41), .call 1 78 [(.t 39), (.t 40)], none, none, []⟩,
 ⟨(some 4), .p (.move (.t 41)), none, none, []⟩,
 ⟨(some 5), .p (.move (.c (.int .i64 0))), none, none, []⟩])
 (.ret)))))⟩
/-- almadraba/almadrabalaw02.Same -/
def f24 : AFn := ⟨101, [.tmp 4],
 .seq (.region 0 [⟨(some 2), .box (.t 0), none, none, []⟩,
 ⟨(some 3), .box (.t 1), none, none, []⟩,
 ⟨(some 4), .p (.move (.c (.bool false))), none, none, []⟩])
 (.seq (.seq (.region 0 [⟨(some 8), .p (.fieldAddr 0 (.t 2)), none, none, []⟩,
 ⟨(some 9), .load true 2 (.t 8), none, none, []⟩,
 ⟨(some 10), .p (.fieldAddr 0 (.t 3)), none, none, []⟩,
 ⟨(some 11), .load true 2 (.t 10), none, none, []⟩,
 ⟨(some 12), .p (.eqS true [true, true] (.t 9) (.t 11)), none, none, []⟩,
 ⟨(some 13), .p (.move (.t 12)), none, none, []⟩,
 ⟨(some 14), .p (.fieldAddr 2 (.t 2)), (some (13, false)), none, []⟩,
 ⟨(some 15), .load true 2 (.t 14), (some (13, false)), none, []⟩,
 ⟨(some 16), .p (.fieldAddr 2 (.t 3)), (some (13, false)), none, []⟩,
 ⟨(some 17), .load true 2 (.t 16), (some (13, false)), none, []⟩,
 ⟨(some 18), .p (.eqS true [true, true] (.t 15) (.t 17)), (some (13, false)), none, []⟩,
 ⟨(some 19), .p (.pick (.t 13) (.c (.bool true)) (.t 18)), none, none, []⟩,
 ⟨(some 20), .p (.move (.t 19)), none, none, []⟩,
 ⟨(some 21), .p (.fieldAddr 4 (.t 2)), (some (20, false)), none, []⟩,
 ⟨(some 22), .load false 1 (.t 21), (some (20, false)), none, []⟩,
 ⟨(some 23), .p (.lenS (.t 22)), (some (20, false)), none, []⟩,
 ⟨(some 24), .p (.fieldAddr 4 (.t 3)), (some (20, false)), none, []⟩,
 ⟨(some 25), .load false 1 (.t 24), (some (20, false)), none, []⟩,
 ⟨(some 26), .p (.lenS (.t 25)), (some (20, false)), none, []⟩,
 ⟨(some 27), .p (.bin .neq (.t 23) (.t 26)), (some (20, false)), none, []⟩,
 ⟨(some 28), .p (.pick (.t 20) (.c (.bool true)) (.t 27)), none, none, []⟩,
 ⟨(some 29), .p (.move (.t 28)), none, none, []⟩,
 ⟨(some 30), .p (.fieldAddr 5 (.t 2)), (some (29, false)), none, []⟩,
 ⟨(some 31), .load false 1 (.t 30), (some (29, false)), none, []⟩,
 ⟨(some 32), .p (.lenS (.t 31)), (some (29, false)), none, []⟩,
 ⟨(some 33), .p (.fieldAddr 5 (.t 3)), (some (29, false)), none, []⟩,
 ⟨(some 34), .load false 1 (.t 33), (some (29, false)), none, []⟩,
 ⟨(some 35), .p (.lenS (.t 34)), (some (29, false)), none, []⟩,
 ⟨(some 36), .p (.bin .neq (.t 32) (.t 35)), (some (29, false)), none, []⟩,
 ⟨(some 37), .p (.pick (.t 29) (.c (.bool true)) (.t 36)), none, none, []⟩,
 ⟨(some 38), .p (.move (.t 37)), none, none, []⟩,
 ⟨(some 39), .p (.fieldAddr 6 (.t 2)), (some (38, false)), none, []⟩,
 ⟨(some 40), .load false 1 (.t 39), (some (38, false)), none, []⟩,
 ⟨(some 41), .p (.lenS (.t 40)), (some (38, false)), none, []⟩,
 ⟨(some 42), .p (.fieldAddr 6 (.t 3)), (some (38, false)), none, []⟩,
 ⟨(some 43), .load false 1 (.t 42), (some (38, false)), none, []⟩,
 ⟨(some 44), .p (.lenS (.t 43)), (some (38, false)), none, []⟩,
 ⟨(some 45), .p (.bin .neq (.t 41) (.t 44)), (some (38, false)), none, []⟩,
 ⟨(some 46), .p (.pick (.t 38) (.c (.bool true)) (.t 45)), none, none, []⟩])
 (.cond (.t 46) (.seq (.region 0 [⟨(some 4), .p (.move (.c (.bool false))), none, none, []⟩])
 (.ret))
 (.skip)))
 (.seq (.seq (.region 0 [⟨(some 5), .p (.move (.c (.int .i64 0))), none, none, []⟩])
 (.block 0 (.loop (.seq (.seq (.region 0 [⟨(some 47), .p (.move (.t 5)), none, none, []⟩,
 ⟨(some 48), .p (.fieldAddr 4 (.t 2)), none, none, []⟩,
 ⟨(some 49), .load false 1 (.t 48), none, none, []⟩,
 ⟨(some 50), .p (.lenS (.t 49)), none, none, []⟩,
 ⟨(some 51), .p (.bin .lss (.t 47) (.t 50)), none, none, []⟩])
 (.cond (.t 51) (.skip)
 (.exit 0)))
 (.seq (.block 1 (.seq (.region 0 [⟨(some 54), .p (.fieldAddr 4 (.t 2)), none, none, []⟩,
 ⟨(some 55), .load false 1 (.t 54), none, none, []⟩,
 ⟨(some 56), .p (.move (.t 5)), none, none, []⟩,
 ⟨(some 57), .p (.idxSl 2 (.t 55) (.t 56)), none, none, []⟩,
 ⟨(some 58), .load true 2 (.t 57), none, none, []⟩,
 ⟨(some 59), .p (.fieldAddr 4 (.t 3)), none, none, []⟩,
 ⟨(some 60), .load false 1 (.t 59), none, none, []⟩,
 ⟨(some 61), .p (.move (.t 5)), none, none, []⟩,
 ⟨(some 62), .p (.idxSl 2 (.t 60) (.t 61)), none, none, []⟩,
 ⟨(some 63), .load true 2 (.t 62), none, none, []⟩,
 ⟨(some 64), .p (.eqS true [true, true] (.t 58) (.t 63)), none, none, []⟩])
 (.cond (.t 64) (.seq (.region 0 [⟨(some 4), .p (.move (.c (.bool false))), none, none, []⟩])
 (.ret))
 (.skip))))
 (.region 0 [⟨(some 52), .p (.move (.t 5)), none, none, []⟩,
 ⟨(some 53), .p (.bin .add (.t 52) (.c (.int .i64 1))), none, none, []⟩,
 ⟨(some 5), .p (.move (.t 53)), none, none, []⟩]))))))
 (.seq (.seq (.region 0 [⟨(some 6), .p (.move (.c (.int .i64 0))), none, none, []⟩])
 (.block 2 (.loop (.seq (.seq (.region 0 [⟨(some 65), .p (.move (.t 6)), none, none, []⟩,
 ⟨(some 66), .p (.fieldAddr 5 (.t 2)), none, none, []⟩,
 ⟨(some 67), .load false 1 (.t 66), none, none, []⟩,
 ⟨(some 68), .p (.lenS (.t 67)), none, none, []⟩,
 ⟨(some 69), .p (.bin .lss (.t 65) (.t 68)), none, none, []⟩])
 (.cond (.t 69) (.skip)
 (.exit 2)))
 (.seq (.block 3 (.seq (.region 0 [⟨(some 72), .p (.fieldAddr 5 (.t 2)), none, none, []⟩,
 ⟨(some 73), .load false 1 (.t 72), none, none, []⟩,
 ⟨(some 74), .p (.move (.t 6)), none, none, []⟩,
 ⟨(some 75), .p (.idxSl 2 (.t 73) (.t 74)), none, none, []⟩,
 ⟨(some 76), .load true 2 (.t 75), none, none, []⟩,
 ⟨(some 77), .p (.fieldAddr 5 (.t 3)), none, none, []⟩,
 ⟨(some 78), .load false 1 (.t 77), none, none, []⟩,
 ⟨(some 79), .p (.move (.t 6)), none, none, []⟩,
 ⟨(some 80), .p (.idxSl 2 (.t 78) (.t 79)), none, none, []⟩,
 ⟨(some 81), .load true 2 (.t 80), none, none, []⟩,
 ⟨(some 82), .p (.eqS true [true, true] (.t 76) (.t 81)), none, none, []⟩])
 (.cond (.t 82) (.seq (.region 0 [⟨(some 4), .p (.move (.c (.bool false))), none, none, []⟩])
 (.ret))
 (.skip))))
 (.region 0 [⟨(some 70), .p (.move (.t 6)), none, none, []⟩,
 ⟨(some 71), .p (.bin .add (.t 70) (.c (.int .i64 1))), none, none, []⟩,
 ⟨(some 6), .p (.move (.t 71)), none, none, []⟩]))))))
 (.seq (.seq (.region 0 [⟨(some 7), .p (.move (.c (.int .i64 0))), none, none, []⟩])
 (.block 4 (.loop (.seq (.seq (.region 0 [⟨(some 83), .p (.move (.t 7)), none, none, []⟩,
 ⟨(some 84), .p (.fieldAddr 6 (.t 2)), none, none, []⟩,
 ⟨(some 85), .load false 1 (.t 84), none, none, []⟩,
 ⟨(some 86), .p (.lenS (.t 85)), none, none, []⟩,
 ⟨(some 87), .p (.bin .lss (.t 83) (.t 86)), none, none, []⟩])
 (.cond (.t 87) (.skip)
 (.exit 4)))
 (.seq (.block 5 (.seq (.region 0 [⟨(some 90), .p (.fieldAddr 6 (.t 2)), none, none, []⟩,
 ⟨(some 91), .load false 1 (.t 90), none, none, []⟩,
 ⟨(some 92), .p (.move (.t 7)), none, none, []⟩,
 ⟨(some 93), .p (.idxSl 5 (.t 91) (.t 92)), none, none, []⟩,
 ⟨(some 94), .load true 5 (.t 93), none, none, []⟩,
 ⟨(some 95), .p (.fieldAddr 6 (.t 3)), none, none, []⟩,
 ⟨(some 96), .load false 1 (.t 95), none, none, []⟩,
 ⟨(some 97), .p (.move (.t 7)), none, none, []⟩,
 ⟨(some 98), .p (.idxSl 5 (.t 96) (.t 97)), none, none, []⟩,
 ⟨(some 99), .load true 5 (.t 98), none, none, []⟩,
 ⟨(some 100), .p (.eqS true [true, true, true, true, true] (.t 94) (.t 99)), none, none, []⟩])
 (.cond (.t 100) (.seq (.region 0 [⟨(some 4), .p (.move (.c (.bool false))), none, none, []⟩])
 (.ret))
 (.skip))))
 (.region 0 [⟨(some 88), .p (.move (.t 7)), none, none, []⟩,
 ⟨(some 89), .p (.bin .add (.t 88) (.c (.int .i64 1))), none, none, []⟩,
 ⟨(some 7), .p (.move (.t 89)), none, none, []⟩]))))))
 (.seq (.region 0 [⟨(some 4), .p (.move (.c (.bool true))), none, none, []⟩])
 (.ret))))))⟩
/-- almadraba/almadrabaref02.CopyTruth -/
def f25 : AFn := ⟨12, [.cell true 3 2],
 .seq (.region 0 [⟨(some 1), .box (.t 0), none, none, []⟩,
 ⟨(some 2), .alloc [.int .i64 0, .int .i64 0, .nils], none, none, []⟩])
 (.seq (.region 2 [⟨(some 3), .p (.fieldAddr 0 (.t 1)), none, none, []⟩,
 ⟨(some 4), .load false 1 (.t 3), none, none, [0, 1]⟩,
 ⟨(some 5), .p (.fieldAddr 1 (.t 1)), none, none, []⟩,
 ⟨(some 6), .load false 1 (.t 5), none, none, [0, 1]⟩,
 ⟨(some 7), .buildSlice 1 0 [.int .i64 0] [], none, (some 0), []⟩,
 ⟨(some 8), .p (.fieldAddr 2 (.t 1)), none, none, []⟩,
 ⟨(some 9), .load false 1 (.t 8), none, none, [0, 1]⟩,
 ⟨(some 10), .append true 1 8 (.t 7) (.t 9), none, (some 1), []⟩,
 ⟨(some 11), .p (.build [.int .i64 0, .int .i64 0, .nils] [(0, 1, (.t 4)), (1, 1, (.t 6)), (2, 1, (.t 10))]), none, none, []⟩,
 ⟨none, .store 3 (.t 2) (.t 11), none, none, []⟩])
 (.ret))⟩
/-- almadraba/anchors.First -/
def f26 : AFn := ⟨20, [.tmp 4, .tmp 5],
 .seq (.region 0 [⟨(some 2), .box (.t 0), none, none, []⟩,
 ⟨(some 3), .box (.t 1), none, none, []⟩,
 ⟨(some 4), .p (.move (.c (.nils))), none, none, []⟩,
 ⟨(some 5), .p (.move (.c (.int .i64 0))), none, none, []⟩])
 (.seq (.seq (.region 0 [⟨(some 7), .load true 7 (.t 2), none, none, []⟩,
 ⟨(some 8), .load true 7 (.t 2), none, none, []⟩,
 ⟨(some 9), .load true 3 (.t 3), none, none, []⟩,
 ⟨(some 10), .call 1 79 [(.t 8), (.t 9)], none, none, []⟩,
 ⟨(some 11), .call 1 68 [(.t 7), (.t 10)], none, none, []⟩,
 ⟨(some 6), .p (.move (.t 11)), none, none, []⟩])
 (.seq (.region 0 [⟨(some 12), .p (.move (.t 6)), none, none, []⟩,
 ⟨(some 13), .p (.bin .neq (.t 12) (.c (.int .i64 0))), none, none, []⟩])
 (.cond (.t 13) (.seq (.region 0 [⟨(some 14), .p (.move (.t 6)), none, none, []⟩,
 ⟨(some 4), .p (.move (.c (.nils))), none, none, []⟩,
 ⟨(some 5), .p (.move (.t 14)), none, none, []⟩])
 (.ret))
 (.skip))))
 (.seq (.region 0 [⟨(some 15), .load true 7 (.t 2), none, none, []⟩,
 ⟨(some 16), .load true 3 (.t 3), none, none, []⟩,
 ⟨(some 17), .p (.build [.int .i64 0, .int .i64 0, .int .i64 0, .int .i64 0, .nils, .nils, .nils, .int .i64 0, .int .i64 0, .nils] [(0, 7, (.t 15)), (7, 3, (.t 16))]), none, none, []⟩,
 ⟨(some 18), .call 1 80 [(.t 17)], none, none, []⟩,
 ⟨(some 19), .call 1 81 [(.t 18)], none, none, []⟩,
 ⟨(some 4), .p (.move (.t 19)), none, none, []⟩,
 ⟨(some 5), .p (.move (.c (.int .i64 0))), none, none, []⟩])
 (.ret)))⟩
/-- almadraba/almadrabaref02.First -/
def f27 : AFn := ⟨16, [.tmp 4, .tmp 5],
 .seq (.region 0 [⟨(some 2), .box (.t 0), none, none, []⟩,
 ⟨(some 3), .box (.t 1), none, none, []⟩,
 ⟨(some 4), .p (.move (.c (.nils))), none, none, []⟩,
 ⟨(some 5), .p (.move (.c (.int .i64 0))), none, none, []⟩])
 (.seq (.seq (.region 0 [⟨(some 7), .load true 7 (.t 2), none, none, []⟩,
 ⟨(some 8), .load true 3 (.t 3), none, none, []⟩,
 ⟨(some 9), .call 1 82 [(.t 7), (.t 8)], none, none, []⟩,
 ⟨(some 6), .p (.move (.t 9)), none, none, []⟩])
 (.seq (.region 0 [⟨(some 10), .p (.move (.t 6)), none, none, []⟩,
 ⟨(some 11), .p (.bin .neq (.t 10) (.c (.int .i64 0))), none, none, []⟩])
 (.cond (.t 11) (.seq (.region 0 [⟨(some 12), .p (.move (.t 6)), none, none, []⟩,
 ⟨(some 4), .p (.move (.c (.nils))), none, none, []⟩,
 ⟨(some 5), .p (.move (.t 12)), none, none, []⟩])
 (.ret))
 (.skip))))
 (.seq (.region 0 [⟨(some 13), .load true 7 (.t 2), none, none, []⟩,
 ⟨(some 14), .load true 3 (.t 3), none, none, []⟩,
 ⟨(some 15), .call 1 83 [(.t 13), (.t 14), (.c (.nils))], none, none, []⟩,
 ⟨(some 4), .p (.move (.t 15)), none, none, []⟩,
 ⟨(some 5), .p (.move (.c (.int .i64 0))), none, none, []⟩])
 (.ret)))⟩
/-- almadraba/anchors.Drags -/
def f28 : AFn := ⟨21, [.tmp 4, .tmp 5],
 .seq (.region 0 [⟨(some 2), .box (.t 0), none, none, []⟩,
 ⟨(some 3), .box (.t 1), none, none, []⟩,
 ⟨(some 4), .p (.move (.c (.nils))), none, none, []⟩,
 ⟨(some 5), .p (.move (.c (.int .i64 0))), none, none, []⟩])
 (.seq (.seq (.region 0 [⟨(some 7), .load true 7 (.t 2), none, none, []⟩,
 ⟨(some 8), .load true 7 (.t 2), none, none, []⟩,
 ⟨(some 9), .load true 3 (.t 3), none, none, []⟩,
 ⟨(some 10), .call 1 79 [(.t 8), (.t 9)], none, none, []⟩,
 ⟨(some 11), .call 1 68 [(.t 7), (.t 10)], none, none, []⟩,
 ⟨(some 6), .p (.move (.t 11)), none, none, []⟩])
 (.seq (.region 0 [⟨(some 12), .p (.move (.t 6)), none, none, []⟩,
 ⟨(some 13), .p (.bin .neq (.t 12) (.c (.int .i64 0))), none, none, []⟩])
 (.cond (.t 13) (.seq (.region 0 [⟨(some 14), .p (.move (.t 6)), none, none, []⟩,
 ⟨(some 4), .p (.move (.c (.nils))), none, none, []⟩,
 ⟨(some 5), .p (.move (.t 14)), none, none, []⟩])
 (.ret))
 (.skip))))
 (.seq (.region 0 [⟨(some 15), .load true 7 (.t 2), none, none, []⟩,
 ⟨(some 16), .load true 3 (.t 3), none, none, []⟩,
 ⟨(some 17), .p (.build [.int .i64 0, .int .i64 0, .int .i64 0, .int .i64 0, .nils, .nils, .nils, .int .i64 0, .int .i64 0, .nils] [(0, 7, (.t 15)), (7, 3, (.t 16))]), none, none, []⟩,
 ⟨(some 18), .p (.build [.bool false, .bool false, .bool false, .bool false, .bool false, .bool false] []), none, none, []⟩,
 ⟨(some 19), .call 1 84 [(.t 17), (.t 18)], none, none, []⟩,
 ⟨(some 20), .call 1 81 [(.t 19)], none, none, []⟩,
 ⟨(some 4), .p (.move (.t 20)), none, none, []⟩,
 ⟨(some 5), .p (.move (.c (.int .i64 0))), none, none, []⟩])
 (.ret)))⟩
/-- almadraba/almadrabaref02.Drags -/
def f29 : AFn := ⟨16, [.tmp 4, .tmp 5],
 .seq (.region 0 [⟨(some 2), .box (.t 0), none, none, []⟩,
 ⟨(some 3), .box (.t 1), none, none, []⟩,
 ⟨(some 4), .p (.move (.c (.nils))), none, none, []⟩,
 ⟨(some 5), .p (.move (.c (.int .i64 0))), none, none, []⟩])
 (.seq (.seq (.region 0 [⟨(some 7), .load true 7 (.t 2), none, none, []⟩,
 ⟨(some 8), .load true 3 (.t 3), none, none, []⟩,
 ⟨(some 9), .call 1 82 [(.t 7), (.t 8)], none, none, []⟩,
 ⟨(some 6), .p (.move (.t 9)), none, none, []⟩])
 (.seq (.region 0 [⟨(some 10), .p (.move (.t 6)), none, none, []⟩,
 ⟨(some 11), .p (.bin .neq (.t 10) (.c (.int .i64 0))), none, none, []⟩])
 (.cond (.t 11) (.seq (.region 0 [⟨(some 12), .p (.move (.t 6)), none, none, []⟩,
 ⟨(some 4), .p (.move (.c (.nils))), none, none, []⟩,
 ⟨(some 5), .p (.move (.t 12)), none, none, []⟩])
 (.ret))
 (.skip))))
 (.seq (.region 0 [⟨(some 13), .load true 7 (.t 2), none, none, []⟩,
 ⟨(some 14), .load true 3 (.t 3), none, none, []⟩,
 ⟨(some 15), .call 1 85 [(.t 13), (.t 14), (.c (.nils))], none, none, []⟩,
 ⟨(some 4), .p (.move (.t 15)), none, none, []⟩,
 ⟨(some 5), .p (.move (.c (.int .i64 0))), none, none, []⟩])
 (.ret)))⟩
/-- almadraba/almadrabaref01.SameInts -/
def f30 : AFn := ⟨26, [.tmp 4],
 .seq (.region 0 [⟨(some 4), .p (.move (.c (.bool false))), none, none, []⟩])
 (.seq (.seq (.region 0 [⟨(some 6), .p (.move (.t 0)), none, none, []⟩,
 ⟨(some 7), .p (.lenS (.t 6)), none, none, []⟩,
 ⟨(some 8), .p (.move (.t 1)), none, none, []⟩,
 ⟨(some 9), .p (.lenS (.t 8)), none, none, []⟩,
 ⟨(some 10), .p (.bin .neq (.t 7) (.t 9)), none, none, []⟩])
 (.cond (.t 10) (.seq (.region 0 [⟨(some 4), .p (.move (.c (.bool false))), none, none, []⟩])
 (.ret))
 (.skip)))
 (.seq (.seq (.region 0 [⟨(some 5), .p (.move (.c (.int .i64 0))), none, none, []⟩])
 (.block 0 (.loop (.seq (.seq (.region 0 [⟨(some 11), .p (.move (.t 5)), none, none, []⟩,
 ⟨(some 12), .p (.move (.t 0)), none, none, []⟩,
 ⟨(some 13), .p (.lenS (.t 12)), none, none, []⟩,
 ⟨(some 14), .p (.bin .lss (.t 11) (.t 13)), none, none, []⟩])
 (.cond (.t 14) (.skip)
 (.exit 0)))
 (.seq (.block 1 (.seq (.region 0 [⟨(some 17), .p (.move (.t 0)), none, none, []⟩,
 ⟨(some 18), .p (.move (.t 5)), none, none, []⟩,
 ⟨(some 19), .p (.idxSl 1 (.t 17) (.t 18)), none, none, []⟩,
 ⟨(some 20), .load false 1 (.t 19), none, none, []⟩,
 ⟨(some 21), .p (.move (.t 1)), none, none, []⟩,
 ⟨(some 22), .p (.move (.t 5)), none, none, []⟩,
 ⟨(some 23), .p (.idxSl 1 (.t 21) (.t 22)), none, none, []⟩,
 ⟨(some 24), .load false 1 (.t 23), none, none, []⟩,
 ⟨(some 25), .p (.bin .neq (.t 20) (.t 24)), none, none, []⟩])
 (.cond (.t 25) (.seq (.region 0 [⟨(some 4), .p (.move (.c (.bool false))), none, none, []⟩])
 (.ret))
 (.skip))))
 (.region 0 [⟨(some 15), .p (.move (.t 5)), none, none, []⟩,
 ⟨(some 16), .p (.bin .add (.t 15) (.c (.int .i64 1))), none, none, []⟩,
 ⟨(some 5), .p (.move (.t 16)), none, none, []⟩]))))))
 (.seq (.region 0 [⟨(some 4), .p (.move (.c (.bool true))), none, none, []⟩])
 (.ret))))⟩
/-- almadraba/anchors.Pulled -/
def f31 : AFn := ⟨28, [.tmp 6, .tmp 7],
 .seq (.region 0 [⟨(some 3), .box (.t 0), none, none, []⟩,
 ⟨(some 4), .box (.t 1), none, none, []⟩,
 ⟨(some 6), .p (.move (.c (.nils))), none, none, []⟩,
 ⟨(some 7), .p (.move (.c (.int .i64 0))), none, none, []⟩])
 (.seq (.seq (.region 0 [⟨(some 9), .load true 7 (.t 3), none, none, []⟩,
 ⟨(some 10), .load true 7 (.t 3), none, none, []⟩,
 ⟨(some 11), .load true 3 (.t 4), none, none, []⟩,
 ⟨(some 12), .call 1 79 [(.t 10), (.t 11)], none, none, []⟩,
 ⟨(some 13), .p (.move (.t 12)), none, none, []⟩,
 ⟨(some 14), .load true 7 (.t 3), (some (13, true)), none, []⟩,
 ⟨(some 15), .p (.move (.t 2)), (some (13, true)), none, []⟩,
 ⟨(some 16), .call 1 86 [(.t 14), (.t 15)], (some (13, true)), none, []⟩,
 ⟨(some 17), .p (.pick (.t 13) (.t 16) (.c (.bool false))), none, none, []⟩,
 ⟨(some 18), .call 1 68 [(.t 9), (.t 17)], none, none, []⟩,
 ⟨(some 8), .p (.move (.t 18)), none, none, []⟩])
 (.seq (.region 0 [⟨(some 19), .p (.move (.t 8)), none, none, []⟩,
 ⟨(some 20), .p (.bin .neq (.t 19) (.c (.int .i64 0))), none, none, []⟩])
 (.cond (.t 20) (.seq (.region 0 [⟨(some 21), .p (.move (.t 8)), none, none, []⟩,
 ⟨(some 6), .p (.move (.c (.nils))), none, none, []⟩,
 ⟨(some 7), .p (.move (.t 21)), none, none, []⟩])
 (.ret))
 (.skip))))
 (.seq (.region 0 [⟨(some 22), .load true 7 (.t 3), none, none, []⟩,
 ⟨(some 23), .load true 3 (.t 4), none, none, []⟩,
 ⟨(some 24), .p (.build [.int .i64 0, .int .i64 0, .int .i64 0, .int .i64 0, .nils, .nils, .nils, .int .i64 0, .int .i64 0, .nils] [(0, 7, (.t 22)), (7, 3, (.t 23))]), none, none, []⟩,
 ⟨(some 25), .p (.move (.t 2)), none, none, []⟩,
 ⟨(some 26), .call 1 87 [(.t 24), (.t 25)], none, none, []⟩,
 ⟨(some 27), .call 1 81 [(.t 26)], none, none, []⟩,
 ⟨(some 6), .p (.move (.t 27)), none, none, []⟩,
 ⟨(some 7), .p (.move (.c (.int .i64 0))), none, none, []⟩])
 (.ret)))⟩
end Go.Proofs.Ytpflneddfhifkaa.T
