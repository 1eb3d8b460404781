/-
The code of functions of the seat, as the abstract machine has it (printed by a tool of ours off the dump).
-/
import Derived.Test.YtjaaefdhdggnkaaAmX
namespace Go.Proofs.Ytjaaefdhdggnkaa.T
open Go Go.Am
/-- gosem.cut.init -/
def f2 : AFn := ⟨1, [],
 .region 0 [⟨(some 0), .call 1 1 [], none, none, []⟩]⟩
/-- almadraba/almadrabalaw01.CountsEach -/
def f3 : AFn := ⟨209, [.tmp 6],
 .seq (.region 0 [⟨(some 3), .box (.t 0), none, none, []⟩,
 ⟨(some 5), .box (.t 2), none, none, []⟩,
 ⟨(some 6), .p (.move (.c (.bool false))), none, none, []⟩])
 (.seq (.seq (.region 0 [⟨(some 23), .load true 4 (.t 3), none, none, []⟩,
 ⟨(some 24), .call 1 16 [(.t 23)], none, none, []⟩,
 ⟨(some 25), .p (.un .not (.t 24)), none, none, []⟩,
 ⟨(some 26), .p (.move (.t 25)), none, none, []⟩,
 ⟨(some 27), .p (.move (.t 1)), (some (26, false)), none, []⟩,
 ⟨(some 28), .call 1 17 [(.t 27)], (some (26, false)), none, []⟩,
 ⟨(some 29), .p (.pick (.t 26) (.c (.bool true)) (.t 28)), none, none, []⟩,
 ⟨(some 30), .p (.move (.t 29)), none, none, []⟩,
 ⟨(some 31), .load true 4 (.t 3), (some (30, false)), none, []⟩,
 ⟨(some 32), .p (.move (.t 1)), (some (30, false)), none, []⟩,
 ⟨(some 33), .call 1 18 [(.t 31), (.t 32)], (some (30, false)), none, []⟩,
 ⟨(some 34), .p (.un .not (.t 33)), (some (30, false)), none, []⟩,
 ⟨(some 35), .p (.pick (.t 30) (.c (.bool true)) (.t 34)), none, none, []⟩])
 (.cond (.t 35) (.seq (.region 0 [⟨(some 36), .call 1 19 [], none, none, []⟩,
 ⟨(some 6), .p (.move (.t 36)), none, none, []⟩])
 (.ret))
 (.skip)))
 (.seq (.region 0 [⟨(some 38), .load true 4 (.t 3), none, none, []⟩,
 ⟨(some 39), .call 1 20 [(.t 38)], none, none, []⟩,
 ⟨(some 37), .p (.move (.t 39)), none, none, []⟩,
 ⟨(some 40), .p (.extract (.t 37) 0), none, none, []⟩,
 ⟨(some 41), .p (.extract (.t 37) 1), none, none, []⟩,
 ⟨(some 7), .p (.move (.t 40)), none, none, []⟩,
 ⟨(some 8), .p (.move (.t 41)), none, none, []⟩])
 (.seq (.region 0 [⟨(some 43), .load true 4 (.t 3), none, none, []⟩,
 ⟨(some 44), .p (.move (.t 1)), none, none, []⟩,
 ⟨(some 45), .call 1 22 [(.t 44)], none, none, []⟩,
 ⟨(some 46), .call 1 21 [(.t 43), (.t 45)], none, none, []⟩,
 ⟨(some 42), .p (.move (.t 46)), none, none, []⟩,
 ⟨(some 47), .p (.extract (.t 42) 0), none, none, []⟩,
 ⟨(some 48), .p (.extract (.t 42) 1), none, none, []⟩,
 ⟨(some 9), .p (.move (.t 47)), none, none, []⟩,
 ⟨(some 10), .p (.move (.t 48)), none, none, []⟩])
 (.seq (.seq (.region 0 [⟨(some 49), .p (.move (.t 8)), none, none, []⟩,
 ⟨(some 50), .p (.un .not (.t 49)), none, none, []⟩,
 ⟨(some 51), .p (.move (.t 50)), none, none, []⟩,
 ⟨(some 52), .p (.move (.t 10)), (some (51, false)), none, []⟩,
 ⟨(some 53), .p (.bin .neq (.t 52) (.c (.int .i64 0))), (some (51, false)), none, []⟩,
 ⟨(some 54), .p (.pick (.t 51) (.c (.bool true)) (.t 53)), none, none, []⟩,
 ⟨(some 55), .p (.move (.t 54)), none, none, []⟩,
 ⟨(some 56), .p (.move (.t 9)), (some (55, false)), none, []⟩,
 ⟨(some 57), .p (.un .not (.t 56)), (some (55, false)), none, []⟩,
 ⟨(some 58), .p (.pick (.t 55) (.c (.bool true)) (.t 57)), none, none, []⟩])
 (.cond (.t 58) (.seq (.region 0 [⟨(some 6), .p (.move (.c (.bool false))), none, none, []⟩])
 (.ret))
 (.skip)))
 (.seq (.seq (.region 0 [⟨(some 11), .p (.move (.c (.int .i64 0))), none, none, []⟩])
 (.block 0 (.loop (.seq (.seq (.region 0 [⟨(some 59), .p (.move (.t 11)), none, none, []⟩,
 ⟨(some 60), .p (.fieldAddr 1 (.t 3)), none, none, []⟩,
 ⟨(some 61), .load false 1 (.t 60), none, none, []⟩,
 ⟨(some 62), .p (.bin .lss (.t 59) (.t 61)), none, none, []⟩])
 (.cond (.t 62) (.skip)
 (.exit 0)))
 (.seq (.block 1 (.seq (.region 0 [⟨(some 66), .load true 4 (.t 3), none, none, []⟩,
 ⟨(some 67), .p (.move (.t 11)), none, none, []⟩,
 ⟨(some 68), .call 1 23 [(.t 66), (.t 67)], none, none, []⟩,
 ⟨(some 65), .p (.move (.t 68)), none, none, []⟩,
 ⟨(some 69), .p (.extract (.t 65) 0), none, none, []⟩,
 ⟨(some 70), .p (.extract (.t 65) 1), none, none, []⟩,
 ⟨(some 12), .alloc [.int .i64 0, .int .i64 0], none, none, []⟩,
 ⟨none, .store 2 (.t 12) (.t 69), none, none, []⟩,
 ⟨(some 13), .p (.move (.t 70)), none, none, []⟩])
 (.seq (.region 0 [⟨(some 72), .load true 4 (.t 3), none, none, []⟩,
 ⟨(some 73), .p (.move (.t 11)), none, none, []⟩,
 ⟨(some 74), .call 1 24 [(.t 72), (.c (.int .i64 0)), (.t 73)], none, none, []⟩,
 ⟨(some 71), .p (.move (.t 74)), none, none, []⟩,
 ⟨(some 75), .p (.extract (.t 71) 0), none, none, []⟩,
 ⟨(some 76), .p (.extract (.t 71) 1), none, none, []⟩,
 ⟨(some 14), .alloc [.int .i64 0, .int .i64 0], none, none, []⟩,
 ⟨none, .store 2 (.t 14) (.t 75), none, none, []⟩,
 ⟨(some 15), .p (.move (.t 76)), none, none, []⟩])
 (.seq (.region 0 [⟨(some 77), .p (.move (.t 1)), none, none, []⟩,
 ⟨(some 78), .p (.move (.t 11)), none, none, []⟩,
 ⟨(some 79), .p (.idxSl 1 (.t 77) (.t 78)), none, none, []⟩,
 ⟨(some 80), .load false 1 (.t 79), none, none, []⟩,
 ⟨(some 81), .call 1 25 [(.t 80), (.c (.int .i64 0))], none, none, []⟩,
 ⟨(some 16), .p (.move (.t 81)), none, none, []⟩])
 (.seq (.seq (.region 0 [⟨(some 82), .p (.move (.t 13)), none, none, []⟩,
 ⟨(some 83), .p (.bin .neq (.t 82) (.c (.int .i64 0))), none, none, []⟩,
 ⟨(some 84), .p (.move (.t 83)), none, none, []⟩,
 ⟨(some 85), .p (.move (.t 15)), (some (84, false)), none, []⟩,
 ⟨(some 86), .p (.bin .neq (.t 85) (.c (.int .i64 0))), (some (84, false)), none, []⟩,
 ⟨(some 87), .p (.pick (.t 84) (.c (.bool true)) (.t 86)), none, none, []⟩,
 ⟨(some 88), .p (.move (.t 87)), none, none, []⟩,
 ⟨(some 89), .load true 2 (.t 12), (some (88, false)), none, []⟩,
 ⟨(some 90), .p (.move (.t 16)), (some (88, false)), none, []⟩,
 ⟨(some 91), .call 1 26 [(.t 89), (.t 90)], (some (88, false)), none, []⟩,
 ⟨(some 92), .p (.un .not (.t 91)), (some (88, false)), none, []⟩,
 ⟨(some 93), .p (.pick (.t 88) (.c (.bool true)) (.t 92)), none, none, []⟩,
 ⟨(some 94), .p (.move (.t 93)), none, none, []⟩,
 ⟨(some 95), .load true 2 (.t 14), (some (94, false)), none, []⟩,
 ⟨(some 96), .p (.move (.t 16)), (some (94, false)), none, []⟩,
 ⟨(some 97), .p (.move (.t 1)), (some (94, false)), none, []⟩,
 ⟨(some 98), .p (.idxSl 1 (.t 97) (.c (.int .i64 0))), (some (94, false)), none, []⟩,
 ⟨(some 99), .load false 1 (.t 98), (some (94, false)), none, []⟩,
 ⟨(some 100), .call 1 25 [(.t 99), (.c (.int .i64 0))], (some (94, false)), none, []⟩,
 ⟨(some 101), .p (.bin .sub (.t 96) (.t 100)), (some (94, false)), none, []⟩,
 ⟨(some 102), .call 1 26 [(.t 95), (.t 101)], (some (94, false)), none, []⟩,
 ⟨(some 103), .p (.un .not (.t 102)), (some (94, false)), none, []⟩,
 ⟨(some 104), .p (.pick (.t 94) (.c (.bool true)) (.t 103)), none, none, []⟩])
 (.cond (.t 104) (.seq (.region 0 [⟨(some 6), .p (.move (.c (.bool false))), none, none, []⟩])
 (.ret))
 (.skip)))
 (.seq (.region 0 [⟨(some 17), .p (.move (.c (.int .i64 0))), none, none, []⟩])
 (.block 2 (.loop (.seq (.seq (.region 0 [⟨(some 105), .p (.move (.t 17)), none, none, []⟩,
 ⟨(some 106), .p (.fieldAddr 0 (.t 3)), none, none, []⟩,
 ⟨(some 107), .load false 1 (.t 106), none, none, []⟩,
 ⟨(some 108), .p (.bin .lss (.t 105) (.t 107)), none, none, []⟩])
 (.cond (.t 108) (.skip)
 (.exit 2)))
 (.seq (.block 3 (.seq (.seq (.region 0 [⟨(some 111), .p (.move (.t 7)), none, none, []⟩,
 ⟨(some 112), .p (.move (.t 11)), none, none, []⟩,
 ⟨(some 113), .p (.idxSl 1 (.t 111) (.t 112)), none, none, []⟩,
 ⟨(some 114), .load false 1 (.t 113), none, none, []⟩,
 ⟨(some 115), .p (.move (.t 17)), none, none, []⟩,
 ⟨(some 116), .p (.idxSl 2 (.t 114) (.t 115)), none, none, []⟩,
 ⟨(some 117), .load true 2 (.t 116), none, none, []⟩,
 ⟨(some 118), .p (.move (.t 1)), none, none, []⟩,
 ⟨(some 119), .p (.move (.t 11)), none, none, []⟩,
 ⟨(some 120), .p (.idxSl 1 (.t 118) (.t 119)), none, none, []⟩,
 ⟨(some 121), .load false 1 (.t 120), none, none, []⟩,
 ⟨(some 122), .p (.move (.t 17)), none, none, []⟩,
 ⟨(some 123), .p (.idxSl 1 (.t 121) (.t 122)), none, none, []⟩,
 ⟨(some 124), .load false 1 (.t 123), none, none, []⟩,
 ⟨(some 125), .call 1 26 [(.t 117), (.t 124)], none, none, []⟩,
 ⟨(some 126), .p (.un .not (.t 125)), none, none, []⟩])
 (.cond (.t 126) (.seq (.region 0 [⟨(some 6), .p (.move (.c (.bool false))), none, none, []⟩])
 (.ret))
 (.skip)))
 (.seq (.seq (.region 0 [⟨(some 127), .p (.move (.t 11)), none, none, []⟩,
 ⟨(some 128), .p (.bin .add (.t 127) (.c (.int .i64 1))), none, none, []⟩,
 ⟨(some 129), .p (.fieldAddr 1 (.t 3)), none, none, []⟩,
 ⟨(some 130), .load false 1 (.t 129), none, none, []⟩,
 ⟨(some 131), .p (.bin .eql (.t 128) (.t 130)), none, none, []⟩])
 (.cond (.t 131) (.exit 3)
 (.skip)))
 (.seq (.region 0 [⟨(some 133), .load true 4 (.t 3), none, none, []⟩,
 ⟨(some 134), .p (.move (.t 11)), none, none, []⟩,
 ⟨(some 135), .p (.move (.t 17)), none, none, []⟩,
 ⟨(some 136), .call 1 27 [(.t 133), (.t 134), (.t 135)], none, none, []⟩,
 ⟨(some 132), .p (.move (.t 136)), none, none, []⟩,
 ⟨(some 137), .p (.extract (.t 132) 0), none, none, []⟩,
 ⟨(some 138), .p (.extract (.t 132) 1), none, none, []⟩,
 ⟨(some 18), .alloc [.int .i64 0, .int .i64 0], none, none, []⟩,
 ⟨none, .store 2 (.t 18) (.t 137), none, none, []⟩,
 ⟨(some 19), .p (.move (.t 138)), none, none, []⟩])
 (.seq (.region 0 [⟨(some 139), .p (.move (.t 19)), none, none, []⟩,
 ⟨(some 140), .p (.bin .neq (.t 139) (.c (.int .i64 0))), none, none, []⟩,
 ⟨(some 141), .p (.move (.t 140)), none, none, []⟩,
 ⟨(some 142), .load true 2 (.t 18), (some (141, false)), none, []⟩,
 ⟨(some 143), .p (.move (.t 1)), (some (141, false)), none, []⟩,
 ⟨(some 144), .p (.move (.t 11)), (some (141, false)), none, []⟩,
 ⟨(some 145), .p (.bin .add (.t 144) (.c (.int .i64 1))), (some (141, false)), none, []⟩,
 ⟨(some 146), .p (.idxSl 1 (.t 143) (.t 145)), (some (141, false)), none, []⟩,
 ⟨(some 147), .load false 1 (.t 146), (some (141, false)), none, []⟩,
 ⟨(some 148), .p (.move (.t 17)), (some (141, false)), none, []⟩,
 ⟨(some 149), .call 1 25 [(.t 147), (.t 148)], (some (141, false)), none, []⟩,
 ⟨(some 150), .p (.move (.t 1)), (some (141, false)), none, []⟩,
 ⟨(some 151), .p (.move (.t 11)), (some (141, false)), none, []⟩,
 ⟨(some 152), .p (.idxSl 1 (.t 150) (.t 151)), (some (141, false)), none, []⟩,
 ⟨(some 153), .load false 1 (.t 152), (some (141, false)), none, []⟩,
 ⟨(some 154), .p (.move (.t 17)), (some (141, false)), none, []⟩,
 ⟨(some 155), .call 1 25 [(.t 153), (.t 154)], (some (141, false)), none, []⟩,
 ⟨(some 156), .p (.bin .sub (.t 149) (.t 155)), (some (141, false)), none, []⟩,
 ⟨(some 157), .call 1 26 [(.t 142), (.t 156)], (some (141, false)), none, []⟩,
 ⟨(some 158), .p (.un .not (.t 157)), (some (141, false)), none, []⟩,
 ⟨(some 159), .p (.pick (.t 141) (.c (.bool true)) (.t 158)), none, none, []⟩])
 (.cond (.t 159) (.seq (.region 0 [⟨(some 6), .p (.move (.c (.bool false))), none, none, []⟩])
 (.ret))
 (.skip)))))))
 (.region 0 [⟨(some 109), .p (.move (.t 17)), none, none, []⟩,
 ⟨(some 110), .p (.bin .add (.t 109) (.c (.int .i64 1))), none, none, []⟩,
 ⟨(some 17), .p (.move (.t 110)), none, none, []⟩])))))))))))
 (.region 0 [⟨(some 63), .p (.move (.t 11)), none, none, []⟩,
 ⟨(some 64), .p (.bin .add (.t 63) (.c (.int .i64 1))), none, none, []⟩,
 ⟨(some 11), .p (.move (.t 64)), none, none, []⟩]))))))
 (.seq (.seq (.region 0 [⟨(some 160), .load true 4 (.t 3), none, none, []⟩,
 ⟨(some 161), .load true 4 (.t 5), none, none, []⟩,
 ⟨(some 162), .call 1 28 [(.t 160), (.t 161)], none, none, []⟩,
 ⟨(some 163), .p (.un .not (.t 162)), none, none, []⟩])
 (.cond (.t 163) (.seq (.region 0 [⟨(some 164), .call 1 19 [], none, none, []⟩,
 ⟨(some 6), .p (.move (.t 164)), none, none, []⟩])
 (.ret))
 (.skip)))
 (.seq (.region 0 [⟨(some 166), .load true 4 (.t 3), none, none, []⟩,
 ⟨(some 167), .load true 4 (.t 5), none, none, []⟩,
 ⟨(some 168), .call 1 29 [(.t 166), (.t 167)], none, none, []⟩,
 ⟨(some 165), .p (.move (.t 168)), none, none, []⟩,
 ⟨(some 169), .p (.extract (.t 165) 0), none, none, []⟩,
 ⟨(some 170), .p (.extract (.t 165) 1), none, none, []⟩,
 ⟨(some 20), .p (.move (.t 169)), none, none, []⟩,
 ⟨(some 21), .p (.move (.t 170)), none, none, []⟩])
 (.seq (.region 0 [⟨(some 171), .p (.move (.t 1)), none, none, []⟩,
 ⟨(some 172), .p (.fieldAddr 0 (.t 5)), none, none, []⟩,
 ⟨(some 173), .load false 1 (.t 172), none, none, []⟩,
 ⟨(some 174), .p (.idxSl 1 (.t 171) (.t 173)), none, none, []⟩,
 ⟨(some 175), .load false 1 (.t 174), none, none, []⟩,
 ⟨(some 176), .p (.fieldAddr 1 (.t 5)), none, none, []⟩,
 ⟨(some 177), .load false 1 (.t 176), none, none, []⟩,
 ⟨(some 178), .p (.idxSl 1 (.t 175) (.t 177)), none, none, []⟩,
 ⟨(some 179), .load false 1 (.t 178), none, none, []⟩,
 ⟨(some 180), .p (.fieldAddr 2 (.t 5)), none, none, []⟩,
 ⟨(some 181), .load false 1 (.t 180), none, none, []⟩,
 ⟨(some 182), .p (.fieldAddr 3 (.t 5)), none, none, []⟩,
 ⟨(some 183), .load false 1 (.t 182), none, none, []⟩,
 ⟨(some 184), .call 1 30 [(.t 179), (.t 181), (.t 183)], none, none, []⟩,
 ⟨(some 22), .p (.move (.t 184)), none, none, []⟩])
 (.seq (.region 0 [⟨(some 185), .p (.move (.t 21)), none, none, []⟩,
 ⟨(some 186), .p (.bin .eql (.t 185) (.c (.int .i64 0))), none, none, []⟩,
 ⟨(some 187), .p (.move (.t 186)), none, none, []⟩,
 ⟨(some 188), .p (.move (.t 20)), (some (187, true)), none, []⟩,
 ⟨(some 189), .call 1 30 [(.t 188), (.c (.int .i64 1)), (.c (.int .i64 3))], (some (187, true)), none, []⟩,
 ⟨(some 190), .p (.pick (.t 187) (.t 189) (.c (.bool false))), none, none, []⟩,
 ⟨(some 191), .p (.move (.t 190)), none, none, []⟩,
 ⟨(some 192), .p (.move (.t 20)), (some (191, true)), none, []⟩,
 ⟨(some 193), .p (.bin .neq (.t 192) (.c (.int .i64 1))), (some (191, true)), none, []⟩,
 ⟨(some 194), .p (.move (.t 193)), (some (191, true)), none, []⟩,
 ⟨(some 195), .p (.move (.t 22)), (some (194, false)), none, []⟩,
 ⟨(some 196), .p (.pick (.t 194) (.c (.bool true)) (.t 195)), (some (191, true)), none, []⟩,
 ⟨(some 197), .p (.pick (.t 191) (.t 196) (.c (.bool false))), none, none, []⟩,
 ⟨(some 198), .p (.move (.t 197)), none, none, []⟩,
 ⟨(some 199), .p (.move (.t 20)), (some (198, true)), none, []⟩,
 ⟨(some 200), .p (.bin .neq (.t 199) (.c (.int .i64 2))), (some (198, true)), none, []⟩,
 ⟨(some 201), .p (.move (.t 200)), (some (198, true)), none, []⟩,
 ⟨(some 202), .p (.move (.t 22)), (some (201, false)), none, []⟩,
 ⟨(some 203), .p (.un .not (.t 202)), (some (201, false)), none, []⟩,
 ⟨(some 204), .p (.pick (.t 201) (.c (.bool true)) (.t 203)), (some (198, true)), none, []⟩,
 ⟨(some 205), .p (.pick (.t 198) (.t 204) (.c (.bool false))), none, none, []⟩,
 ⟨(some 206), .p (.move (.t 205)), none, none, []⟩,
 ⟨(some 207), .call 1 19 [], (some (206, true)), none, []⟩,
 ⟨(some 208), .p (.pick (.t 206) (.t 207) (.c (.bool false))), none, none, []⟩,
 ⟨(some 6), .p (.move (.t 208)), none, none, []⟩])
 (.ret))))))))))⟩
/-- almadraba/almadrabalaw01.CountsEnds -/
def f4 : AFn := ⟨145, [.tmp 4],
 .seq (.region 0 [⟨(some 2), .box (.t 0), none, none, []⟩,
 ⟨(some 3), .box (.t 1), none, none, []⟩,
 ⟨(some 4), .p (.move (.c (.bool false))), none, none, []⟩])
 (.seq (.seq (.region 0 [⟨(some 12), .load true 4 (.t 2), none, none, []⟩,
 ⟨(some 13), .call 1 16 [(.t 12)], none, none, []⟩,
 ⟨(some 14), .p (.un .not (.t 13)), none, none, []⟩,
 ⟨(some 15), .p (.move (.t 14)), none, none, []⟩,
 ⟨(some 16), .p (.fieldAddr 3 (.t 2)), (some (15, false)), none, []⟩,
 ⟨(some 17), .load false 1 (.t 16), (some (15, false)), none, []⟩,
 ⟨(some 18), .p (.lenS (.t 17)), (some (15, false)), none, []⟩,
 ⟨(some 19), .p (.bin .eql (.t 18) (.c (.int .i64 8))), (some (15, false)), none, []⟩,
 ⟨(some 20), .p (.pick (.t 15) (.c (.bool true)) (.t 19)), none, none, []⟩,
 ⟨(some 21), .p (.move (.t 20)), none, none, []⟩,
 ⟨(some 22), .load true 4 (.t 2), (some (21, false)), none, []⟩,
 ⟨(some 23), .load true 2 (.t 3), (some (21, false)), none, []⟩,
 ⟨(some 24), .call 1 31 [(.t 22), (.t 23)], (some (21, false)), none, []⟩,
 ⟨(some 25), .p (.un .not (.t 24)), (some (21, false)), none, []⟩,
 ⟨(some 26), .p (.pick (.t 21) (.c (.bool true)) (.t 25)), none, none, []⟩])
 (.cond (.t 26) (.seq (.region 0 [⟨(some 27), .call 1 19 [], none, none, []⟩,
 ⟨(some 4), .p (.move (.t 27)), none, none, []⟩])
 (.ret))
 (.skip)))
 (.seq (.region 0 [⟨(some 29), .load true 4 (.t 2), none, none, []⟩,
 ⟨(some 30), .p (.fieldAddr 0 (.t 3)), none, none, []⟩,
 ⟨(some 31), .load false 1 (.t 30), none, none, []⟩,
 ⟨(some 32), .p (.fieldAddr 1 (.t 3)), none, none, []⟩,
 ⟨(some 33), .load false 1 (.t 32), none, none, []⟩,
 ⟨(some 34), .call 1 32 [(.t 29), (.t 31), (.t 33)], none, none, []⟩,
 ⟨(some 28), .p (.move (.t 34)), none, none, []⟩,
 ⟨(some 35), .p (.extract (.t 28) 0), none, none, []⟩,
 ⟨(some 36), .p (.extract (.t 28) 1), none, none, []⟩,
 ⟨(some 5), .alloc [.int .i64 0, .int .i64 0], none, none, []⟩,
 ⟨none, .store 2 (.t 5) (.t 35), none, none, []⟩,
 ⟨(some 6), .p (.move (.t 36)), none, none, []⟩])
 (.seq (.region 0 [⟨(some 38), .load true 4 (.t 2), none, none, []⟩,
 ⟨(some 39), .call 1 33 [(.t 38)], none, none, []⟩,
 ⟨(some 37), .p (.move (.t 39)), none, none, []⟩,
 ⟨(some 40), .p (.extract (.t 37) 0), none, none, []⟩,
 ⟨(some 41), .p (.extract (.t 37) 1), none, none, []⟩,
 ⟨(some 7), .p (.move (.t 40)), none, none, []⟩,
 ⟨(some 8), .p (.move (.t 41)), none, none, []⟩])
 (.seq (.seq (.region 0 [⟨(some 42), .p (.move (.t 6)), none, none, []⟩,
 ⟨(some 43), .p (.move (.t 8)), none, none, []⟩,
 ⟨(some 44), .p (.bin .neq (.t 42) (.t 43)), none, none, []⟩,
 ⟨(some 45), .p (.move (.t 44)), none, none, []⟩,
 ⟨(some 46), .p (.move (.t 6)), (some (45, false)), none, []⟩,
 ⟨(some 47), .p (.bin .neq (.t 46) (.c (.int .i64 0))), (some (45, false)), none, []⟩,
 ⟨(some 48), .p (.move (.t 47)), (some (45, false)), none, []⟩,
 ⟨(some 49), .p (.move (.t 6)), (some (48, true)), none, []⟩,
 ⟨(some 50), .p (.bin .neq (.t 49) (.c (.int .i64 3))), (some (48, true)), none, []⟩,
 ⟨(some 51), .p (.pick (.t 48) (.t 50) (.c (.bool false))), (some (45, false)), none, []⟩,
 ⟨(some 52), .p (.pick (.t 45) (.c (.bool true)) (.t 51)), none, none, []⟩,
 ⟨(some 53), .p (.move (.t 52)), none, none, []⟩,
 ⟨(some 54), .p (.fieldAddr 0 (.t 5)), (some (53, false)), none, []⟩,
 ⟨(some 55), .load false 1 (.t 54), (some (53, false)), none, []⟩,
 ⟨(some 56), .p (.bin .lss (.t 55) (.c (.int .i64 0))), (some (53, false)), none, []⟩,
 ⟨(some 57), .p (.pick (.t 53) (.c (.bool true)) (.t 56)), none, none, []⟩,
 ⟨(some 58), .p (.move (.t 57)), none, none, []⟩,
 ⟨(some 59), .p (.fieldAddr 0 (.t 5)), (some (58, false)), none, []⟩,
 ⟨(some 60), .load false 1 (.t 59), (some (58, false)), none, []⟩,
 ⟨(some 61), .p (.fieldAddr 1 (.t 5)), (some (58, false)), none, []⟩,
 ⟨(some 62), .load false 1 (.t 61), (some (58, false)), none, []⟩,
 ⟨(some 63), .p (.bin .gtr (.t 60) (.t 62)), (some (58, false)), none, []⟩,
 ⟨(some 64), .p (.pick (.t 58) (.c (.bool true)) (.t 63)), none, none, []⟩,
 ⟨(some 65), .p (.move (.t 64)), none, none, []⟩,
 ⟨(some 66), .p (.fieldAddr 1 (.t 5)), (some (65, false)), none, []⟩,
 ⟨(some 67), .load false 1 (.t 66), (some (65, false)), none, []⟩,
 ⟨(some 68), .p (.bin .gtr (.t 67) (.c (.int .i64 40))), (some (65, false)), none, []⟩,
 ⟨(some 69), .p (.pick (.t 65) (.c (.bool true)) (.t 68)), none, none, []⟩])
 (.cond (.t 69) (.seq (.region 0 [⟨(some 4), .p (.move (.c (.bool false))), none, none, []⟩])
 (.ret))
 (.skip)))
 (.seq (.seq (.region 0 [⟨(some 70), .p (.move (.t 6)), none, none, []⟩,
 ⟨(some 71), .p (.bin .neq (.t 70) (.c (.int .i64 0))), none, none, []⟩])
 (.cond (.t 71) (.seq (.region 0 [⟨(some 72), .call 1 19 [], none, none, []⟩,
 ⟨(some 4), .p (.move (.t 72)), none, none, []⟩])
 (.ret))
 (.skip)))
 (.seq (.seq (.region 0 [⟨(some 73), .p (.fieldAddr 0 (.t 5)), none, none, []⟩,
 ⟨(some 74), .load false 1 (.t 73), none, none, []⟩,
 ⟨(some 75), .p (.bin .sub (.t 74) (.c (.int .i64 1))), none, none, []⟩,
 ⟨(some 76), .p (.minmax true (.c (.int .i64 0)) [(.t 75)]), none, none, []⟩,
 ⟨(some 9), .p (.move (.t 76)), none, none, []⟩])
 (.block 0 (.loop (.seq (.seq (.region 0 [⟨(some 77), .p (.move (.t 9)), none, none, []⟩,
 ⟨(some 78), .p (.fieldAddr 1 (.t 5)), none, none, []⟩,
 ⟨(some 79), .load false 1 (.t 78), none, none, []⟩,
 ⟨(some 80), .p (.bin .add (.t 79) (.c (.int .i64 1))), none, none, []⟩,
 ⟨(some 81), .p (.minmax false (.t 80) [(.c (.int .i64 40))]), none, none, []⟩,
 ⟨(some 82), .p (.bin .leq (.t 77) (.t 81)), none, none, []⟩])
 (.cond (.t 82) (.skip)
 (.exit 0)))
 (.seq (.block 1 (.seq (.seq (.region 0 [⟨(some 85), .p (.move (.t 9)), none, none, []⟩,
 ⟨(some 86), .p (.fieldAddr 0 (.t 5)), none, none, []⟩,
 ⟨(some 87), .load false 1 (.t 86), none, none, []⟩,
 ⟨(some 88), .p (.bin .gtr (.t 85) (.t 87)), none, none, []⟩,
 ⟨(some 89), .p (.move (.t 88)), none, none, []⟩,
 ⟨(some 90), .p (.move (.t 9)), (some (89, true)), none, []⟩,
 ⟨(some 91), .p (.fieldAddr 1 (.t 5)), (some (89, true)), none, []⟩,
 ⟨(some 92), .load false 1 (.t 91), (some (89, true)), none, []⟩,
 ⟨(some 93), .p (.bin .lss (.t 90) (.t 92)), (some (89, true)), none, []⟩,
 ⟨(some 94), .p (.pick (.t 89) (.t 93) (.c (.bool false))), none, none, []⟩])
 (.cond (.t 94) (.exit 1)
 (.skip)))
 (.seq (.region 0 [⟨(some 96), .load true 4 (.t 2), none, none, []⟩,
 ⟨(some 97), .load true 2 (.t 3), none, none, []⟩,
 ⟨(some 98), .p (.move (.t 9)), none, none, []⟩,
 ⟨(some 99), .call 1 34 [(.t 96), (.t 97), (.t 98)], none, none, []⟩,
 ⟨(some 100), .call 1 33 [(.t 99)], none, none, []⟩,
 ⟨(some 95), .p (.move (.t 100)), none, none, []⟩,
 ⟨(some 101), .p (.extract (.t 95) 0), none, none, []⟩,
 ⟨(some 102), .p (.extract (.t 95) 1), none, none, []⟩,
 ⟨(some 10), .p (.move (.t 101)), none, none, []⟩,
 ⟨(some 11), .p (.move (.t 102)), none, none, []⟩])
 (.seq (.region 0 [⟨(some 103), .p (.move (.t 11)), none, none, []⟩,
 ⟨(some 104), .p (.bin .eql (.t 103) (.c (.int .i64 0))), none, none, []⟩,
 ⟨(some 105), .load true 2 (.t 5), none, none, []⟩,
 ⟨(some 106), .p (.move (.t 9)), none, none, []⟩,
 ⟨(some 107), .call 1 26 [(.t 105), (.t 106)], none, none, []⟩,
 ⟨(some 108), .p (.eqB true (.t 104) (.t 107)), none, none, []⟩,
 ⟨(some 109), .p (.move (.t 108)), none, none, []⟩,
 ⟨(some 110), .p (.move (.t 11)), (some (109, false)), none, []⟩,
 ⟨(some 111), .p (.bin .neq (.t 110) (.c (.int .i64 0))), (some (109, false)), none, []⟩,
 ⟨(some 112), .p (.move (.t 111)), (some (109, false)), none, []⟩,
 ⟨(some 113), .p (.move (.t 11)), (some (112, true)), none, []⟩,
 ⟨(some 114), .p (.bin .neq (.t 113) (.c (.int .i64 3))), (some (112, true)), none, []⟩,
 ⟨(some 115), .p (.pick (.t 112) (.t 114) (.c (.bool false))), (some (109, false)), none, []⟩,
 ⟨(some 116), .p (.pick (.t 109) (.c (.bool true)) (.t 115)), none, none, []⟩,
 ⟨(some 117), .p (.move (.t 116)), none, none, []⟩,
 ⟨(some 118), .p (.move (.t 11)), (some (117, false)), none, []⟩,
 ⟨(some 119), .p (.bin .eql (.t 118) (.c (.int .i64 0))), (some (117, false)), none, []⟩,
 ⟨(some 120), .p (.move (.t 119)), (some (117, false)), none, []⟩,
 ⟨(some 121), .p (.move (.t 10)), (some (120, true)), none, []⟩,
 ⟨(some 122), .call 1 17 [(.t 121)], (some (120, true)), none, []⟩,
 ⟨(some 123), .p (.move (.t 122)), (some (120, true)), none, []⟩,
 ⟨(some 124), .load true 4 (.t 2), (some (123, false)), none, []⟩,
 ⟨(some 125), .p (.move (.t 10)), (some (123, false)), none, []⟩,
 ⟨(some 126), .call 1 18 [(.t 124), (.t 125)], (some (123, false)), none, []⟩,
 ⟨(some 127), .p (.un .not (.t 126)), (some (123, false)), none, []⟩,
 ⟨(some 128), .p (.pick (.t 123) (.c (.bool true)) (.t 127)), (some (120, true)), none, []⟩,
 ⟨(some 129), .p (.move (.t 128)), (some (120, true)), none, []⟩,
 ⟨(some 130), .p (.move (.t 10)), (some (129, false)), none, []⟩,
 ⟨(some 131), .p (.fieldAddr 0 (.t 3)), (some (129, false)), none, []⟩,
 ⟨(some 132), .load false 1 (.t 131), (some (129, false)), none, []⟩,
 ⟨(some 133), .p (.idxSl 1 (.t 130) (.t 132)), (some (129, false)), none, []⟩,
 ⟨(some 134), .load false 1 (.t 133), (some (129, false)), none, []⟩,
 ⟨(some 135), .p (.fieldAddr 1 (.t 3)), (some (129, false)), none, []⟩,
 ⟨(some 136), .load false 1 (.t 135), (some (129, false)), none, []⟩,
 ⟨(some 137), .p (.idxSl 1 (.t 134) (.t 136)), (some (129, false)), none, []⟩,
 ⟨(some 138), .load false 1 (.t 137), (some (129, false)), none, []⟩,
 ⟨(some 139), .p (.move (.t 9)), (some (129, false)), none, []⟩,
 ⟨(some 140), .p (.bin .neq (.t 138) (.t 139)), (some (129, false)), none, []⟩,
 ⟨(some 141), .p (.pick (.t 129) (.c (.bool true)) (.t 140)), (some (120, true)), none, []⟩,
 ⟨(some 142), .p (.pick (.t 120) (.t 141) (.c (.bool false))), (some (117, false)), none, []⟩,
 ⟨(some 143), .p (.pick (.t 117) (.c (.bool true)) (.t 142)), none, none, []⟩])
 (.cond (.t 143) (.seq (.region 0 [⟨(some 4), .p (.move (.c (.bool false))), none, none, []⟩])
 (.ret))
 (.skip))))))
 (.region 0 [⟨(some 83), .p (.move (.t 9)), none, none, []⟩,
 ⟨(some 84), .p (.bin .add (.t 83) (.c (.int .i64 1))), none, none, []⟩,
 ⟨(some 9), .p (.move (.t 84)), none, none, []⟩]))))))
 (.seq (.region 0 [⟨(some 144), .call 1 19 [], none, none, []⟩,
 ⟨(some 4), .p (.move (.t 144)), none, none, []⟩])
 (.ret))))))))⟩
/-- almadraba/almadrabalaw01.CountsMore -/
def f5 : AFn := ⟨84, [.tmp 6],
 .seq (.region 0 [⟨(some 3), .box (.t 0), none, none, []⟩,
 ⟨(some 4), .box (.t 1), none, none, []⟩,
 ⟨(some 5), .box (.t 2), none, none, []⟩,
 ⟨(some 6), .p (.move (.c (.bool false))), none, none, []⟩])
 (.seq (.region 0 [⟨(some 14), .load true 4 (.t 3), none, none, []⟩,
 ⟨(some 15), .load true 4 (.t 4), none, none, []⟩,
 ⟨(some 16), .call 1 35 [(.t 14), (.t 15)], none, none, []⟩,
 ⟨(some 7), .alloc [.int .i64 0, .int .i64 0, .nils, .nils], none, none, []⟩,
 ⟨none, .store 4 (.t 7) (.t 16), none, none, []⟩])
 (.seq (.seq (.region 0 [⟨(some 17), .load true 4 (.t 3), none, none, []⟩,
 ⟨(some 18), .call 1 16 [(.t 17)], none, none, []⟩,
 ⟨(some 19), .p (.un .not (.t 18)), none, none, []⟩,
 ⟨(some 20), .p (.move (.t 19)), none, none, []⟩,
 ⟨(some 21), .load true 4 (.t 7), (some (20, false)), none, []⟩,
 ⟨(some 22), .call 1 16 [(.t 21)], (some (20, false)), none, []⟩,
 ⟨(some 23), .p (.un .not (.t 22)), (some (20, false)), none, []⟩,
 ⟨(some 24), .p (.pick (.t 20) (.c (.bool true)) (.t 23)), none, none, []⟩,
 ⟨(some 25), .p (.move (.t 24)), none, none, []⟩,
 ⟨(some 26), .load true 4 (.t 7), (some (25, false)), none, []⟩,
 ⟨(some 27), .call 1 36 [(.t 26)], (some (25, false)), none, []⟩,
 ⟨(some 28), .p (.un .not (.t 27)), (some (25, false)), none, []⟩,
 ⟨(some 29), .p (.pick (.t 25) (.c (.bool true)) (.t 28)), none, none, []⟩])
 (.cond (.t 29) (.seq (.region 0 [⟨(some 30), .call 1 19 [], none, none, []⟩,
 ⟨(some 6), .p (.move (.t 30)), none, none, []⟩])
 (.ret))
 (.skip)))
 (.seq (.seq (.region 0 [⟨(some 31), .load true 4 (.t 7), none, none, []⟩,
 ⟨(some 32), .load true 4 (.t 3), none, none, []⟩,
 ⟨(some 33), .call 1 37 [(.t 31), (.t 32)], none, none, []⟩,
 ⟨(some 34), .p (.un .not (.t 33)), none, none, []⟩])
 (.cond (.t 34) (.seq (.region 0 [⟨(some 6), .p (.move (.c (.bool false))), none, none, []⟩])
 (.ret))
 (.skip)))
 (.seq (.seq (.region 0 [⟨(some 35), .load true 4 (.t 3), none, none, []⟩,
 ⟨(some 36), .load true 4 (.t 5), none, none, []⟩,
 ⟨(some 37), .call 1 28 [(.t 35), (.t 36)], none, none, []⟩,
 ⟨(some 38), .p (.un .not (.t 37)), none, none, []⟩])
 (.cond (.t 38) (.seq (.region 0 [⟨(some 39), .call 1 19 [], none, none, []⟩,
 ⟨(some 6), .p (.move (.t 39)), none, none, []⟩])
 (.ret))
 (.skip)))
 (.seq (.region 0 [⟨(some 41), .load true 4 (.t 3), none, none, []⟩,
 ⟨(some 42), .load true 4 (.t 5), none, none, []⟩,
 ⟨(some 43), .call 1 29 [(.t 41), (.t 42)], none, none, []⟩,
 ⟨(some 40), .p (.move (.t 43)), none, none, []⟩,
 ⟨(some 44), .p (.extract (.t 40) 0), none, none, []⟩,
 ⟨(some 45), .p (.extract (.t 40) 1), none, none, []⟩,
 ⟨(some 8), .p (.move (.t 44)), none, none, []⟩,
 ⟨(some 9), .p (.move (.t 45)), none, none, []⟩])
 (.seq (.region 0 [⟨(some 47), .load true 4 (.t 7), none, none, []⟩,
 ⟨(some 48), .load true 4 (.t 5), none, none, []⟩,
 ⟨(some 49), .call 1 29 [(.t 47), (.t 48)], none, none, []⟩,
 ⟨(some 46), .p (.move (.t 49)), none, none, []⟩,
 ⟨(some 50), .p (.extract (.t 46) 0), none, none, []⟩,
 ⟨(some 51), .p (.extract (.t 46) 1), none, none, []⟩,
 ⟨(some 10), .p (.move (.t 50)), none, none, []⟩,
 ⟨(some 11), .p (.move (.t 51)), none, none, []⟩])
 (.seq (.region 0 [⟨(some 53), .load true 4 (.t 7), none, none, []⟩,
 ⟨(some 54), .load true 4 (.t 4), none, none, []⟩,
 ⟨(some 55), .call 1 29 [(.t 53), (.t 54)], none, none, []⟩,
 ⟨(some 52), .p (.move (.t 55)), none, none, []⟩,
 ⟨(some 56), .p (.extract (.t 52) 0), none, none, []⟩,
 ⟨(some 57), .p (.extract (.t 52) 1), none, none, []⟩,
 ⟨(some 12), .p (.move (.t 56)), none, none, []⟩,
 ⟨(some 13), .p (.move (.t 57)), none, none, []⟩])
 (.seq (.region 0 [⟨(some 58), .p (.move (.t 9)), none, none, []⟩,
 ⟨(some 59), .p (.bin .eql (.t 58) (.c (.int .i64 0))), none, none, []⟩,
 ⟨(some 60), .p (.move (.t 59)), none, none, []⟩,
 ⟨(some 61), .p (.move (.t 11)), (some (60, true)), none, []⟩,
 ⟨(some 62), .p (.bin .eql (.t 61) (.c (.int .i64 0))), (some (60, true)), none, []⟩,
 ⟨(some 63), .p (.pick (.t 60) (.t 62) (.c (.bool false))), none, none, []⟩,
 ⟨(some 64), .p (.move (.t 63)), none, none, []⟩,
 ⟨(some 65), .p (.move (.t 13)), (some (64, true)), none, []⟩,
 ⟨(some 66), .p (.bin .eql (.t 65) (.c (.int .i64 0))), (some (64, true)), none, []⟩,
 ⟨(some 67), .p (.pick (.t 64) (.t 66) (.c (.bool false))), none, none, []⟩,
 ⟨(some 68), .p (.move (.t 67)), none, none, []⟩,
 ⟨(some 69), .p (.move (.t 12)), (some (68, true)), none, []⟩,
 ⟨(some 70), .p (.bin .eql (.t 69) (.c (.int .i64 1))), (some (68, true)), none, []⟩,
 ⟨(some 71), .p (.pick (.t 68) (.t 70) (.c (.bool false))), none, none, []⟩,
 ⟨(some 72), .p (.move (.t 71)), none, none, []⟩,
 ⟨(some 73), .p (.move (.t 8)), (some (72, true)), none, []⟩,
 ⟨(some 74), .p (.bin .eql (.t 73) (.c (.int .i64 3))), (some (72, true)), none, []⟩,
 ⟨(some 75), .p (.move (.t 74)), (some (72, true)), none, []⟩,
 ⟨(some 76), .p (.move (.t 10)), (some (75, false)), none, []⟩,
 ⟨(some 77), .p (.move (.t 8)), (some (75, false)), none, []⟩,
 ⟨(some 78), .p (.bin .eql (.t 76) (.t 77)), (some (75, false)), none, []⟩,
 ⟨(some 79), .p (.pick (.t 75) (.c (.bool true)) (.t 78)), (some (72, true)), none, []⟩,
 ⟨(some 80), .p (.pick (.t 72) (.t 79) (.c (.bool false))), none, none, []⟩,
 ⟨(some 81), .p (.move (.t 80)), none, none, []⟩,
 ⟨(some 82), .call 1 19 [], (some (81, true)), none, []⟩,
 ⟨(some 83), .p (.pick (.t 81) (.t 82) (.c (.bool false))), none, none, []⟩,
 ⟨(some 6), .p (.move (.t 83)), none, none, []⟩])
 (.ret)))))))))⟩
/-- almadraba/almadrabalaw01.CountsDoor -/
def f6 : AFn := ⟨134, [.tmp 6],
 .seq (.region 0 [⟨(some 3), .box (.t 0), none, none, []⟩,
 ⟨(some 6), .p (.move (.c (.bool false))), none, none, []⟩])
 (.seq (.seq (.region 0 [⟨(some 15), .load true 4 (.t 3), none, none, []⟩,
 ⟨(some 16), .call 1 16 [(.t 15)], none, none, []⟩,
 ⟨(some 17), .p (.un .not (.t 16)), none, none, []⟩,
 ⟨(some 18), .p (.move (.t 17)), none, none, []⟩,
 ⟨(some 19), .load true 4 (.t 3), (some (18, false)), none, []⟩,
 ⟨(some 20), .p (.move (.t 1)), (some (18, false)), none, []⟩,
 ⟨(some 21), .call 1 38 [(.t 19), (.t 20)], (some (18, false)), none, []⟩,
 ⟨(some 22), .p (.un .not (.t 21)), (some (18, false)), none, []⟩,
 ⟨(some 23), .p (.pick (.t 18) (.c (.bool true)) (.t 22)), none, none, []⟩,
 ⟨(some 24), .p (.move (.t 23)), none, none, []⟩,
 ⟨(some 25), .load true 4 (.t 3), (some (24, false)), none, []⟩,
 ⟨(some 26), .p (.move (.t 2)), (some (24, false)), none, []⟩,
 ⟨(some 27), .call 1 39 [(.t 25), (.t 26)], (some (24, false)), none, []⟩,
 ⟨(some 28), .p (.un .not (.t 27)), (some (24, false)), none, []⟩,
 ⟨(some 29), .p (.pick (.t 24) (.c (.bool true)) (.t 28)), none, none, []⟩,
 ⟨(some 30), .p (.move (.t 29)), none, none, []⟩,
 ⟨(some 31), .p (.fieldAddr 2 (.t 3)), (some (30, false)), none, []⟩,
 ⟨(some 32), .load false 1 (.t 31), (some (30, false)), none, []⟩,
 ⟨(some 33), .p (.move (.t 1)), (some (30, false)), none, []⟩,
 ⟨(some 34), .p (.idxSl 1 (.t 32) (.t 33)), (some (30, false)), none, []⟩,
 ⟨(some 35), .load false 1 (.t 34), (some (30, false)), none, []⟩,
 ⟨(some 36), .p (.move (.t 2)), (some (30, false)), none, []⟩,
 ⟨(some 37), .call 1 40 [(.t 35), (.t 36)], (some (30, false)), none, []⟩,
 ⟨(some 38), .p (.pick (.t 30) (.c (.bool true)) (.t 37)), none, none, []⟩,
 ⟨(some 39), .p (.move (.t 38)), none, none, []⟩,
 ⟨(some 40), .load true 4 (.t 3), (some (39, false)), none, []⟩,
 ⟨(some 41), .call 1 36 [(.t 40)], (some (39, false)), none, []⟩,
 ⟨(some 42), .p (.un .not (.t 41)), (some (39, false)), none, []⟩,
 ⟨(some 43), .p (.pick (.t 39) (.c (.bool true)) (.t 42)), none, none, []⟩])
 (.cond (.t 43) (.seq (.region 0 [⟨(some 44), .call 1 19 [], none, none, []⟩,
 ⟨(some 6), .p (.move (.t 44)), none, none, []⟩])
 (.ret))
 (.skip)))
 (.seq (.region 0 [⟨(some 45), .load true 4 (.t 3), none, none, []⟩,
 ⟨(some 46), .call 2 41 [(.t 45)], none, none, []⟩,
 ⟨(some 7), .alloc [.int .i64 0, .int .i64 0, .nils, .nils], none, none, []⟩,
 ⟨none, .store 4 (.t 7) (.t 46), none, none, []⟩])
 (.seq (.region 0 [⟨(some 47), .p (.fieldAddr 2 (.t 7)), none, none, []⟩,
 ⟨(some 48), .load false 1 (.t 47), none, none, []⟩,
 ⟨(some 49), .p (.move (.t 1)), none, none, []⟩,
 ⟨(some 50), .p (.idxSl 1 (.t 48) (.t 49)), none, none, []⟩,
 ⟨none, .store 1 (.t 50) (.c (.nils)), none, none, []⟩])
 (.seq (.seq (.region 0 [⟨(some 8), .p (.move (.c (.int .i64 0))), none, none, []⟩])
 (.block 0 (.loop (.seq (.seq (.region 0 [⟨(some 51), .p (.move (.t 8)), none, none, []⟩,
 ⟨(some 52), .p (.fieldAddr 0 (.t 3)), none, none, []⟩,
 ⟨(some 53), .load false 1 (.t 52), none, none, []⟩,
 ⟨(some 54), .p (.bin .lss (.t 51) (.t 53)), none, none, []⟩])
 (.cond (.t 54) (.skip)
 (.exit 0)))
 (.seq (.block 1 (.seq (.region 0 [⟨(some 57), .p (.move (.t 8)), none, none, []⟩,
 ⟨(some 58), .p (.move (.t 2)), none, none, []⟩,
 ⟨(some 59), .p (.bin .eql (.t 57) (.t 58)), none, none, []⟩,
 ⟨(some 60), .p (.move (.t 59)), none, none, []⟩,
 ⟨(some 61), .p (.fieldAddr 2 (.t 3)), (some (60, false)), none, []⟩,
 ⟨(some 62), .load false 1 (.t 61), (some (60, false)), none, []⟩,
 ⟨(some 63), .p (.move (.t 1)), (some (60, false)), none, []⟩,
 ⟨(some 64), .p (.idxSl 1 (.t 62) (.t 63)), (some (60, false)), none, []⟩,
 ⟨(some 65), .load false 1 (.t 64), (some (60, false)), none, []⟩,
 ⟨(some 66), .p (.move (.t 8)), (some (60, false)), none, []⟩,
 ⟨(some 67), .call 1 40 [(.t 65), (.t 66)], (some (60, false)), none, []⟩,
 ⟨(some 68), .p (.pick (.t 60) (.c (.bool true)) (.t 67)), none, none, []⟩])
 (.cond (.t 68) (.region 1 [⟨(some 69), .p (.fieldAddr 2 (.t 7)), none, none, []⟩,
 ⟨(some 70), .load false 1 (.t 69), none, none, [0]⟩,
 ⟨(some 71), .p (.move (.t 1)), none, none, []⟩,
 ⟨(some 72), .p (.fieldAddr 2 (.t 7)), none, none, []⟩,
 ⟨(some 73), .load false 1 (.t 72), none, none, [0]⟩,
 ⟨(some 74), .p (.move (.t 1)), none, none, []⟩,
 ⟨(some 75), .p (.idxSl 1 (.t 73) (.t 74)), none, none, []⟩,
 ⟨(some 76), .load false 1 (.t 75), none, none, [0]⟩,
 ⟨(some 77), .p (.move (.t 8)), none, none, []⟩,
 ⟨(some 78), .litS 1 1 [.int .i64 0] [(0, (.t 77))], none, none, []⟩,
 ⟨(some 79), .append true 1 8 (.t 76) (.t 78), none, (some 0), []⟩,
 ⟨(some 80), .p (.idxSl 1 (.t 70) (.t 71)), none, none, []⟩,
 ⟨none, .store 1 (.t 80) (.t 79), none, none, []⟩])
 (.skip))))
 (.region 0 [⟨(some 55), .p (.move (.t 8)), none, none, []⟩,
 ⟨(some 56), .p (.bin .add (.t 55) (.c (.int .i64 1))), none, none, []⟩,
 ⟨(some 8), .p (.move (.t 56)), none, none, []⟩]))))))
 (.seq (.region 0 [⟨(some 82), .load true 4 (.t 3), none, none, []⟩,
 ⟨(some 83), .p (.move (.t 1)), none, none, []⟩,
 ⟨(some 84), .p (.move (.t 2)), none, none, []⟩,
 ⟨(some 85), .call 1 27 [(.t 82), (.t 83), (.t 84)], none, none, []⟩,
 ⟨(some 81), .p (.move (.t 85)), none, none, []⟩,
 ⟨(some 86), .p (.extract (.t 81) 0), none, none, []⟩,
 ⟨(some 87), .p (.extract (.t 81) 1), none, none, []⟩,
 ⟨(some 9), .alloc [.int .i64 0, .int .i64 0], none, none, []⟩,
 ⟨none, .store 2 (.t 9) (.t 86), none, none, []⟩,
 ⟨(some 10), .p (.move (.t 87)), none, none, []⟩])
 (.seq (.region 0 [⟨(some 89), .load true 4 (.t 3), none, none, []⟩,
 ⟨(some 90), .call 1 33 [(.t 89)], none, none, []⟩,
 ⟨(some 88), .p (.move (.t 90)), none, none, []⟩,
 ⟨(some 91), .p (.extract (.t 88) 0), none, none, []⟩,
 ⟨(some 92), .p (.extract (.t 88) 1), none, none, []⟩,
 ⟨(some 11), .p (.move (.t 91)), none, none, []⟩,
 ⟨(some 12), .p (.move (.t 92)), none, none, []⟩])
 (.seq (.seq (.region 0 [⟨(some 93), .p (.move (.t 10)), none, none, []⟩,
 ⟨(some 94), .p (.bin .neq (.t 93) (.c (.int .i64 0))), none, none, []⟩,
 ⟨(some 95), .p (.move (.t 94)), none, none, []⟩,
 ⟨(some 96), .load true 2 (.t 9), (some (95, false)), none, []⟩,
 ⟨(some 97), .p (.build [.int .i64 0, .int .i64 0] []), (some (95, false)), none, []⟩,
 ⟨(some 98), .p (.eqS true [true, true] (.t 96) (.t 97)), (some (95, false)), none, []⟩,
 ⟨(some 99), .p (.pick (.t 95) (.c (.bool true)) (.t 98)), none, none, []⟩,
 ⟨(some 100), .p (.move (.t 99)), none, none, []⟩,
 ⟨(some 101), .p (.move (.t 12)), (some (100, false)), none, []⟩,
 ⟨(some 102), .p (.bin .neq (.t 101) (.c (.int .i64 0))), (some (100, false)), none, []⟩,
 ⟨(some 103), .p (.pick (.t 100) (.c (.bool true)) (.t 102)), none, none, []⟩,
 ⟨(some 104), .p (.move (.t 103)), none, none, []⟩,
 ⟨(some 105), .p (.move (.t 11)), (some (104, false)), none, []⟩,
 ⟨(some 106), .call 1 17 [(.t 105)], (some (104, false)), none, []⟩,
 ⟨(some 107), .p (.pick (.t 104) (.c (.bool true)) (.t 106)), none, none, []⟩,
 ⟨(some 108), .p (.move (.t 107)), none, none, []⟩,
 ⟨(some 109), .load true 4 (.t 3), (some (108, false)), none, []⟩,
 ⟨(some 110), .p (.move (.t 11)), (some (108, false)), none, []⟩,
 ⟨(some 111), .call 1 18 [(.t 109), (.t 110)], (some (108, false)), none, []⟩,
 ⟨(some 112), .p (.un .not (.t 111)), (some (108, false)), none, []⟩,
 ⟨(some 113), .p (.pick (.t 108) (.c (.bool true)) (.t 112)), none, none, []⟩])
 (.cond (.t 113) (.seq (.region 0 [⟨(some 6), .p (.move (.c (.bool false))), none, none, []⟩])
 (.ret))
 (.skip)))
 (.seq (.region 0 [⟨(some 115), .load true 4 (.t 7), none, none, []⟩,
 ⟨(some 116), .p (.move (.t 11)), none, none, []⟩,
 ⟨(some 117), .call 1 22 [(.t 116)], none, none, []⟩,
 ⟨(some 118), .call 1 21 [(.t 115), (.t 117)], none, none, []⟩,
 ⟨(some 114), .p (.move (.t 118)), none, none, []⟩,
 ⟨(some 119), .p (.extract (.t 114) 0), none, none, []⟩,
 ⟨(some 120), .p (.extract (.t 114) 1), none, none, []⟩,
 ⟨(some 13), .p (.move (.t 119)), none, none, []⟩,
 ⟨(some 14), .p (.move (.t 120)), none, none, []⟩])
 (.seq (.region 0 [⟨(some 121), .p (.move (.t 14)), none, none, []⟩,
 ⟨(some 122), .p (.bin .eql (.t 121) (.c (.int .i64 0))), none, none, []⟩,
 ⟨(some 123), .p (.move (.t 122)), none, none, []⟩,
 ⟨(some 124), .p (.move (.t 13)), (some (123, true)), none, []⟩,
 ⟨(some 125), .p (.pick (.t 123) (.t 124) (.c (.bool false))), none, none, []⟩,
 ⟨(some 126), .p (.move (.t 125)), none, none, []⟩,
 ⟨(some 127), .load true 4 (.t 3), (some (126, true)), none, []⟩,
 ⟨(some 128), .load true 4 (.t 7), (some (126, true)), none, []⟩,
 ⟨(some 129), .call 1 37 [(.t 127), (.t 128)], (some (126, true)), none, []⟩,
 ⟨(some 130), .p (.pick (.t 126) (.t 129) (.c (.bool false))), none, none, []⟩,
 ⟨(some 131), .p (.move (.t 130)), none, none, []⟩,
 ⟨(some 132), .call 1 19 [], (some (131, true)), none, []⟩,
 ⟨(some 133), .p (.pick (.t 131) (.t 132) (.c (.bool false))), none, none, []⟩,
 ⟨(some 6), .p (.move (.t 133)), none, none, []⟩])
 (.ret))))))))))⟩
/-- almadraba/almadrabalaw01.CountsTime -/
def f7 : AFn := ⟨197, [.tmp 8],
 .seq (.region 0 [⟨(some 4), .box (.t 0), none, none, []⟩,
 ⟨(some 8), .p (.move (.c (.bool false))), none, none, []⟩])
 (.seq (.seq (.region 0 [⟨(some 21), .load true 4 (.t 4), none, none, []⟩,
 ⟨(some 22), .call 1 16 [(.t 21)], none, none, []⟩,
 ⟨(some 23), .p (.un .not (.t 22)), none, none, []⟩,
 ⟨(some 24), .p (.move (.t 23)), none, none, []⟩,
 ⟨(some 25), .p (.move (.t 1)), (some (24, false)), none, []⟩,
 ⟨(some 26), .p (.bin .lss (.t 25) (.c (.int .i64 0))), (some (24, false)), none, []⟩,
 ⟨(some 27), .p (.pick (.t 24) (.c (.bool true)) (.t 26)), none, none, []⟩,
 ⟨(some 28), .p (.move (.t 27)), none, none, []⟩,
 ⟨(some 29), .p (.move (.t 1)), (some (28, false)), none, []⟩,
 ⟨(some 30), .p (.move (.t 2)), (some (28, false)), none, []⟩,
 ⟨(some 31), .p (.bin .gtr (.t 29) (.t 30)), (some (28, false)), none, []⟩,
 ⟨(some 32), .p (.pick (.t 28) (.c (.bool true)) (.t 31)), none, none, []⟩,
 ⟨(some 33), .p (.move (.t 32)), none, none, []⟩,
 ⟨(some 34), .p (.move (.t 2)), (some (33, false)), none, []⟩,
 ⟨(some 35), .p (.move (.t 3)), (some (33, false)), none, []⟩,
 ⟨(some 36), .p (.bin .gtr (.t 34) (.t 35)), (some (33, false)), none, []⟩,
 ⟨(some 37), .p (.pick (.t 33) (.c (.bool true)) (.t 36)), none, none, []⟩,
 ⟨(some 38), .p (.move (.t 37)), none, none, []⟩,
 ⟨(some 39), .p (.move (.t 3)), (some (38, false)), none, []⟩,
 ⟨(some 40), .p (.fieldAddr 1 (.t 4)), (some (38, false)), none, []⟩,
 ⟨(some 41), .load false 1 (.t 40), (some (38, false)), none, []⟩,
 ⟨(some 42), .p (.bin .geq (.t 39) (.t 41)), (some (38, false)), none, []⟩,
 ⟨(some 43), .p (.pick (.t 38) (.c (.bool true)) (.t 42)), none, none, []⟩])
 (.cond (.t 43) (.seq (.region 0 [⟨(some 44), .call 1 19 [], none, none, []⟩,
 ⟨(some 8), .p (.move (.t 44)), none, none, []⟩])
 (.ret))
 (.skip)))
 (.seq (.region 0 [⟨(some 45), .p (.fieldAddr 0 (.t 4)), none, none, []⟩,
 ⟨(some 46), .load false 1 (.t 45), none, none, []⟩,
 ⟨(some 47), .p (.bin .sub (.t 46) (.c (.int .i64 1))), none, none, []⟩,
 ⟨(some 9), .p (.move (.t 47)), none, none, []⟩])
 (.seq (.region 0 [⟨(some 49), .load true 4 (.t 4), none, none, []⟩,
 ⟨(some 50), .p (.move (.t 1)), none, none, []⟩,
 ⟨(some 51), .p (.move (.t 9)), none, none, []⟩,
 ⟨(some 52), .call 1 32 [(.t 49), (.t 50), (.t 51)], none, none, []⟩,
 ⟨(some 48), .p (.move (.t 52)), none, none, []⟩,
 ⟨(some 53), .p (.extract (.t 48) 0), none, none, []⟩,
 ⟨(some 54), .p (.extract (.t 48) 1), none, none, []⟩,
 ⟨(some 10), .alloc [.int .i64 0, .int .i64 0], none, none, []⟩,
 ⟨none, .store 2 (.t 10) (.t 53), none, none, []⟩,
 ⟨(some 11), .p (.move (.t 54)), none, none, []⟩])
 (.seq (.region 0 [⟨(some 56), .load true 4 (.t 4), none, none, []⟩,
 ⟨(some 57), .p (.move (.t 2)), none, none, []⟩,
 ⟨(some 58), .p (.move (.t 9)), none, none, []⟩,
 ⟨(some 59), .call 1 32 [(.t 56), (.t 57), (.t 58)], none, none, []⟩,
 ⟨(some 55), .p (.move (.t 59)), none, none, []⟩,
 ⟨(some 60), .p (.extract (.t 55) 0), none, none, []⟩,
 ⟨(some 61), .p (.extract (.t 55) 1), none, none, []⟩,
 ⟨(some 12), .alloc [.int .i64 0, .int .i64 0], none, none, []⟩,
 ⟨none, .store 2 (.t 12) (.t 60), none, none, []⟩,
 ⟨(some 13), .p (.move (.t 61)), none, none, []⟩])
 (.seq (.region 0 [⟨(some 63), .load true 4 (.t 4), none, none, []⟩,
 ⟨(some 64), .p (.move (.t 1)), none, none, []⟩,
 ⟨(some 65), .call 1 23 [(.t 63), (.t 64)], none, none, []⟩,
 ⟨(some 62), .p (.move (.t 65)), none, none, []⟩,
 ⟨(some 66), .p (.extract (.t 62) 0), none, none, []⟩,
 ⟨(some 67), .p (.extract (.t 62) 1), none, none, []⟩,
 ⟨(some 14), .alloc [.int .i64 0, .int .i64 0], none, none, []⟩,
 ⟨none, .store 2 (.t 14) (.t 66), none, none, []⟩,
 ⟨(some 15), .p (.move (.t 67)), none, none, []⟩])
 (.seq (.region 0 [⟨(some 69), .load true 4 (.t 4), none, none, []⟩,
 ⟨(some 70), .p (.move (.t 2)), none, none, []⟩,
 ⟨(some 71), .call 1 23 [(.t 69), (.t 70)], none, none, []⟩,
 ⟨(some 68), .p (.move (.t 71)), none, none, []⟩,
 ⟨(some 72), .p (.extract (.t 68) 0), none, none, []⟩,
 ⟨(some 73), .p (.extract (.t 68) 1), none, none, []⟩,
 ⟨(some 16), .alloc [.int .i64 0, .int .i64 0], none, none, []⟩,
 ⟨none, .store 2 (.t 16) (.t 72), none, none, []⟩,
 ⟨(some 17), .p (.move (.t 73)), none, none, []⟩])
 (.seq (.seq (.region 0 [⟨(some 74), .p (.move (.t 11)), none, none, []⟩,
 ⟨(some 75), .p (.bin .neq (.t 74) (.c (.int .i64 0))), none, none, []⟩])
 (.cond (.t 75) (.seq (.region 0 [⟨(some 76), .p (.move (.t 11)), none, none, []⟩,
 ⟨(some 77), .p (.bin .eql (.t 76) (.c (.int .i64 3))), none, none, []⟩,
 ⟨(some 78), .p (.move (.t 77)), none, none, []⟩,
 ⟨(some 79), .p (.move (.t 13)), (some (78, true)), none, []⟩,
 ⟨(some 80), .p (.move (.t 11)), (some (78, true)), none, []⟩,
 ⟨(some 81), .p (.bin .eql (.t 79) (.t 80)), (some (78, true)), none, []⟩,
 ⟨(some 82), .p (.pick (.t 78) (.t 81) (.c (.bool false))), none, none, []⟩,
 ⟨(some 83), .p (.move (.t 82)), none, none, []⟩,
 ⟨(some 84), .p (.move (.t 15)), (some (83, true)), none, []⟩,
 ⟨(some 85), .p (.move (.t 11)), (some (83, true)), none, []⟩,
 ⟨(some 86), .p (.bin .eql (.t 84) (.t 85)), (some (83, true)), none, []⟩,
 ⟨(some 87), .p (.pick (.t 83) (.t 86) (.c (.bool false))), none, none, []⟩,
 ⟨(some 88), .p (.move (.t 87)), none, none, []⟩,
 ⟨(some 89), .p (.move (.t 17)), (some (88, true)), none, []⟩,
 ⟨(some 90), .p (.move (.t 11)), (some (88, true)), none, []⟩,
 ⟨(some 91), .p (.bin .eql (.t 89) (.t 90)), (some (88, true)), none, []⟩,
 ⟨(some 92), .p (.pick (.t 88) (.t 91) (.c (.bool false))), none, none, []⟩,
 ⟨(some 93), .p (.move (.t 92)), none, none, []⟩,
 ⟨(some 94), .call 1 19 [], (some (93, true)), none, []⟩,
 ⟨(some 95), .p (.pick (.t 93) (.t 94) (.c (.bool false))), none, none, []⟩,
 ⟨(some 8), .p (.move (.t 95)), none, none, []⟩])
 (.ret))
 (.skip)))
 (.seq (.seq (.region 0 [⟨(some 96), .p (.move (.t 13)), none, none, []⟩,
 ⟨(some 97), .p (.bin .neq (.t 96) (.c (.int .i64 0))), none, none, []⟩,
 ⟨(some 98), .p (.move (.t 97)), none, none, []⟩,
 ⟨(some 99), .p (.move (.t 15)), (some (98, false)), none, []⟩,
 ⟨(some 100), .p (.bin .neq (.t 99) (.c (.int .i64 0))), (some (98, false)), none, []⟩,
 ⟨(some 101), .p (.pick (.t 98) (.c (.bool true)) (.t 100)), none, none, []⟩,
 ⟨(some 102), .p (.move (.t 101)), none, none, []⟩,
 ⟨(some 103), .p (.move (.t 17)), (some (102, false)), none, []⟩,
 ⟨(some 104), .p (.bin .neq (.t 103) (.c (.int .i64 0))), (some (102, false)), none, []⟩,
 ⟨(some 105), .p (.pick (.t 102) (.c (.bool true)) (.t 104)), none, none, []⟩,
 ⟨(some 106), .p (.move (.t 105)), none, none, []⟩,
 ⟨(some 107), .p (.fieldAddr 0 (.t 12)), (some (106, false)), none, []⟩,
 ⟨(some 108), .load false 1 (.t 107), (some (106, false)), none, []⟩,
 ⟨(some 109), .p (.fieldAddr 0 (.t 10)), (some (106, false)), none, []⟩,
 ⟨(some 110), .load false 1 (.t 109), (some (106, false)), none, []⟩,
 ⟨(some 111), .p (.bin .lss (.t 108) (.t 110)), (some (106, false)), none, []⟩,
 ⟨(some 112), .p (.pick (.t 106) (.c (.bool true)) (.t 111)), none, none, []⟩,
 ⟨(some 113), .p (.move (.t 112)), none, none, []⟩,
 ⟨(some 114), .p (.fieldAddr 1 (.t 12)), (some (113, false)), none, []⟩,
 ⟨(some 115), .load false 1 (.t 114), (some (113, false)), none, []⟩,
 ⟨(some 116), .p (.fieldAddr 1 (.t 10)), (some (113, false)), none, []⟩,
 ⟨(some 117), .load false 1 (.t 116), (some (113, false)), none, []⟩,
 ⟨(some 118), .p (.bin .lss (.t 115) (.t 117)), (some (113, false)), none, []⟩,
 ⟨(some 119), .p (.pick (.t 113) (.c (.bool true)) (.t 118)), none, none, []⟩,
 ⟨(some 120), .p (.move (.t 119)), none, none, []⟩,
 ⟨(some 121), .p (.fieldAddr 0 (.t 16)), (some (120, false)), none, []⟩,
 ⟨(some 122), .load false 1 (.t 121), (some (120, false)), none, []⟩,
 ⟨(some 123), .p (.fieldAddr 0 (.t 14)), (some (120, false)), none, []⟩,
 ⟨(some 124), .load false 1 (.t 123), (some (120, false)), none, []⟩,
 ⟨(some 125), .p (.bin .lss (.t 122) (.t 124)), (some (120, false)), none, []⟩,
 ⟨(some 126), .p (.pick (.t 120) (.c (.bool true)) (.t 125)), none, none, []⟩,
 ⟨(some 127), .p (.move (.t 126)), none, none, []⟩,
 ⟨(some 128), .p (.fieldAddr 1 (.t 16)), (some (127, false)), none, []⟩,
 ⟨(some 129), .load false 1 (.t 128), (some (127, false)), none, []⟩,
 ⟨(some 130), .p (.fieldAddr 1 (.t 14)), (some (127, false)), none, []⟩,
 ⟨(some 131), .load false 1 (.t 130), (some (127, false)), none, []⟩,
 ⟨(some 132), .p (.bin .lss (.t 129) (.t 131)), (some (127, false)), none, []⟩,
 ⟨(some 133), .p (.pick (.t 127) (.c (.bool true)) (.t 132)), none, none, []⟩])
 (.cond (.t 133) (.seq (.region 0 [⟨(some 8), .p (.move (.c (.bool false))), none, none, []⟩])
 (.ret))
 (.skip)))
 (.seq (.region 0 [⟨(some 135), .load true 4 (.t 4), none, none, []⟩,
 ⟨(some 136), .p (.move (.t 1)), none, none, []⟩,
 ⟨(some 137), .p (.move (.t 2)), none, none, []⟩,
 ⟨(some 138), .call 1 24 [(.t 135), (.t 136), (.t 137)], none, none, []⟩,
 ⟨(some 134), .p (.move (.t 138)), none, none, []⟩,
 ⟨(some 139), .p (.extract (.t 134) 0), none, none, []⟩,
 ⟨(some 140), .p (.extract (.t 134) 1), none, none, []⟩,
 ⟨(some 18), .alloc [.int .i64 0, .int .i64 0], none, none, []⟩,
 ⟨none, .store 2 (.t 18) (.t 139), none, none, []⟩,
 ⟨(some 11), .p (.move (.t 140)), none, none, []⟩])
 (.seq (.region 0 [⟨(some 142), .load true 4 (.t 4), none, none, []⟩,
 ⟨(some 143), .p (.move (.t 2)), none, none, []⟩,
 ⟨(some 144), .p (.move (.t 3)), none, none, []⟩,
 ⟨(some 145), .call 1 24 [(.t 142), (.t 143), (.t 144)], none, none, []⟩,
 ⟨(some 141), .p (.move (.t 145)), none, none, []⟩,
 ⟨(some 146), .p (.extract (.t 141) 0), none, none, []⟩,
 ⟨(some 147), .p (.extract (.t 141) 1), none, none, []⟩,
 ⟨(some 19), .alloc [.int .i64 0, .int .i64 0], none, none, []⟩,
 ⟨none, .store 2 (.t 19) (.t 146), none, none, []⟩,
 ⟨(some 13), .p (.move (.t 147)), none, none, []⟩])
 (.seq (.region 0 [⟨(some 149), .load true 4 (.t 4), none, none, []⟩,
 ⟨(some 150), .p (.move (.t 1)), none, none, []⟩,
 ⟨(some 151), .p (.move (.t 3)), none, none, []⟩,
 ⟨(some 152), .call 1 24 [(.t 149), (.t 150), (.t 151)], none, none, []⟩,
 ⟨(some 148), .p (.move (.t 152)), none, none, []⟩,
 ⟨(some 153), .p (.extract (.t 148) 0), none, none, []⟩,
 ⟨(some 154), .p (.extract (.t 148) 1), none, none, []⟩,
 ⟨(some 20), .alloc [.int .i64 0, .int .i64 0], none, none, []⟩,
 ⟨none, .store 2 (.t 20) (.t 153), none, none, []⟩,
 ⟨(some 15), .p (.move (.t 154)), none, none, []⟩])
 (.seq (.seq (.region 0 [⟨(some 155), .p (.move (.t 11)), none, none, []⟩,
 ⟨(some 156), .p (.bin .neq (.t 155) (.c (.int .i64 0))), none, none, []⟩,
 ⟨(some 157), .p (.move (.t 156)), none, none, []⟩,
 ⟨(some 158), .p (.move (.t 13)), (some (157, false)), none, []⟩,
 ⟨(some 159), .p (.bin .neq (.t 158) (.c (.int .i64 0))), (some (157, false)), none, []⟩,
 ⟨(some 160), .p (.pick (.t 157) (.c (.bool true)) (.t 159)), none, none, []⟩,
 ⟨(some 161), .p (.move (.t 160)), none, none, []⟩,
 ⟨(some 162), .p (.move (.t 15)), (some (161, false)), none, []⟩,
 ⟨(some 163), .p (.bin .neq (.t 162) (.c (.int .i64 0))), (some (161, false)), none, []⟩,
 ⟨(some 164), .p (.pick (.t 161) (.c (.bool true)) (.t 163)), none, none, []⟩,
 ⟨(some 165), .p (.move (.t 164)), none, none, []⟩,
 ⟨(some 166), .p (.fieldAddr 0 (.t 18)), (some (165, false)), none, []⟩,
 ⟨(some 167), .load false 1 (.t 166), (some (165, false)), none, []⟩,
 ⟨(some 168), .p (.fieldAddr 0 (.t 19)), (some (165, false)), none, []⟩,
 ⟨(some 169), .load false 1 (.t 168), (some (165, false)), none, []⟩,
 ⟨(some 170), .p (.minmax false (.t 167) [(.t 169)]), (some (165, false)), none, []⟩,
 ⟨(some 171), .p (.bin .lss (.t 170) (.c (.int .i64 0))), (some (165, false)), none, []⟩,
 ⟨(some 172), .p (.pick (.t 165) (.c (.bool true)) (.t 171)), none, none, []⟩,
 ⟨(some 173), .p (.move (.t 172)), none, none, []⟩,
 ⟨(some 174), .p (.fieldAddr 1 (.t 18)), (some (173, false)), none, []⟩,
 ⟨(some 175), .load false 1 (.t 174), (some (173, false)), none, []⟩,
 ⟨(some 176), .p (.fieldAddr 1 (.t 19)), (some (173, false)), none, []⟩,
 ⟨(some 177), .load false 1 (.t 176), (some (173, false)), none, []⟩,
 ⟨(some 178), .p (.minmax true (.t 175) [(.t 177)]), (some (173, false)), none, []⟩,
 ⟨(some 179), .p (.bin .gtr (.t 178) (.c (.int .i64 40))), (some (173, false)), none, []⟩,
 ⟨(some 180), .p (.pick (.t 173) (.c (.bool true)) (.t 179)), none, none, []⟩])
 (.cond (.t 180) (.seq (.region 0 [⟨(some 8), .p (.move (.c (.bool false))), none, none, []⟩])
 (.ret))
 (.skip)))
 (.seq (.region 0 [⟨(some 181), .load true 2 (.t 20), none, none, []⟩,
 ⟨(some 182), .p (.fieldAddr 0 (.t 18)), none, none, []⟩,
 ⟨(some 183), .load false 1 (.t 182), none, none, []⟩,
 ⟨(some 184), .p (.fieldAddr 0 (.t 19)), none, none, []⟩,
 ⟨(some 185), .load false 1 (.t 184), none, none, []⟩,
 ⟨(some 186), .p (.bin .add (.t 183) (.t 185)), none, none, []⟩,
 ⟨(some 187), .p (.fieldAddr 1 (.t 18)), none, none, []⟩,
 ⟨(some 188), .load false 1 (.t 187), none, none, []⟩,
 ⟨(some 189), .p (.fieldAddr 1 (.t 19)), none, none, []⟩,
 ⟨(some 190), .load false 1 (.t 189), none, none, []⟩,
 ⟨(some 191), .p (.bin .add (.t 188) (.t 190)), none, none, []⟩,
 ⟨(some 192), .p (.build [.int .i64 0, .int .i64 0] [(0, 1, (.t 186)), (1, 1, (.t 191))]), none, none, []⟩,
 ⟨(some 193), .call 1 42 [(.t 181), (.t 192)], none, none, []⟩,
 ⟨(some 194), .p (.move (.t 193)), none, none, []⟩,
 ⟨(some 195), .call 1 19 [], (some (194, true)), none, []⟩,
 ⟨(some 196), .p (.pick (.t 194) (.t 195) (.c (.bool false))), none, none, []⟩,
 ⟨(some 8), .p (.move (.t 196)), none, none, []⟩])
 (.ret))))))))))))))⟩
/-- almadraba/almadrabalaw01.CountsTell -/
def f9 : AFn := ⟨173, [.tmp 6],
 .seq (.region 0 [⟨(some 3), .box (.t 0), none, none, []⟩,
 ⟨(some 4), .box (.t 1), none, none, []⟩,
 ⟨(some 6), .p (.move (.c (.bool false))), none, none, []⟩])
 (.seq (.seq (.region 0 [⟨(some 18), .load true 4 (.t 3), none, none, []⟩,
 ⟨(some 19), .call 1 46 [(.t 18)], none, none, []⟩,
 ⟨(some 20), .p (.move (.t 19)), none, none, []⟩,
 ⟨(some 21), .load true 4 (.t 3), (some (20, false)), none, []⟩,
 ⟨(some 22), .call 1 16 [(.t 21)], (some (20, false)), none, []⟩,
 ⟨(some 23), .p (.un .not (.t 22)), (some (20, false)), none, []⟩,
 ⟨(some 24), .p (.pick (.t 20) (.c (.bool true)) (.t 23)), none, none, []⟩,
 ⟨(some 25), .p (.move (.t 24)), none, none, []⟩,
 ⟨(some 26), .p (.fieldAddr 3 (.t 3)), (some (25, false)), none, []⟩,
 ⟨(some 27), .load false 1 (.t 26), (some (25, false)), none, []⟩,
 ⟨(some 28), .p (.lenS (.t 27)), (some (25, false)), none, []⟩,
 ⟨(some 29), .p (.bin .eql (.t 28) (.c (.int .i64 8))), (some (25, false)), none, []⟩,
 ⟨(some 30), .p (.pick (.t 25) (.c (.bool true)) (.t 29)), none, none, []⟩,
 ⟨(some 31), .p (.move (.t 30)), none, none, []⟩,
 ⟨(some 32), .load true 4 (.t 3), (some (31, false)), none, []⟩,
 ⟨(some 33), .call 1 36 [(.t 32)], (some (31, false)), none, []⟩,
 ⟨(some 34), .p (.un .not (.t 33)), (some (31, false)), none, []⟩,
 ⟨(some 35), .p (.pick (.t 31) (.c (.bool true)) (.t 34)), none, none, []⟩,
 ⟨(some 36), .p (.move (.t 35)), none, none, []⟩,
 ⟨(some 37), .load true 4 (.t 3), (some (36, false)), none, []⟩,
 ⟨(some 38), .load true 2 (.t 4), (some (36, false)), none, []⟩,
 ⟨(some 39), .call 1 31 [(.t 37), (.t 38)], (some (36, false)), none, []⟩,
 ⟨(some 40), .p (.un .not (.t 39)), (some (36, false)), none, []⟩,
 ⟨(some 41), .p (.pick (.t 36) (.c (.bool true)) (.t 40)), none, none, []⟩])
 (.cond (.t 41) (.seq (.region 0 [⟨(some 42), .call 1 19 [], none, none, []⟩,
 ⟨(some 6), .p (.move (.t 42)), none, none, []⟩])
 (.ret))
 (.skip)))
 (.seq (.region 0 [⟨(some 43), .load true 4 (.t 3), none, none, []⟩,
 ⟨(some 44), .call 1 47 [(.t 43)], none, none, []⟩,
 ⟨(some 7), .p (.move (.t 44)), none, none, []⟩])
 (.seq (.region 0 [⟨(some 46), .load true 4 (.t 3), none, none, []⟩,
 ⟨(some 47), .load true 2 (.t 4), none, none, []⟩,
 ⟨(some 48), .call 1 48 [(.t 46), (.t 47)], none, none, []⟩,
 ⟨(some 45), .p (.move (.t 48)), none, none, []⟩,
 ⟨(some 49), .p (.extract (.t 45) 0), none, none, []⟩,
 ⟨(some 50), .p (.extract (.t 45) 1), none, none, []⟩,
 ⟨(some 8), .p (.move (.t 49)), none, none, []⟩,
 ⟨(some 9), .p (.move (.t 50)), none, none, []⟩])
 (.seq (.region 0 [⟨(some 52), .load true 4 (.t 3), none, none, []⟩,
 ⟨(some 53), .call 1 49 [(.t 52)], none, none, []⟩,
 ⟨(some 51), .p (.move (.t 53)), none, none, []⟩,
 ⟨(some 54), .p (.extract (.t 51) 0), none, none, []⟩,
 ⟨(some 55), .p (.extract (.t 51) 1), none, none, []⟩,
 ⟨(some 10), .alloc [.int .i64 0, .int .i64 0], none, none, []⟩,
 ⟨none, .store 2 (.t 10) (.t 54), none, none, []⟩,
 ⟨(some 11), .p (.move (.t 55)), none, none, []⟩])
 (.seq (.region 0 [⟨(some 56), .p (.fieldAddr 1 (.t 3)), none, none, []⟩,
 ⟨(some 57), .load false 1 (.t 56), none, none, []⟩,
 ⟨(some 58), .p (.bin .sub (.t 57) (.c (.int .i64 1))), none, none, []⟩,
 ⟨(some 59), .p (.fieldAddr 0 (.t 3)), none, none, []⟩,
 ⟨(some 60), .load false 1 (.t 59), none, none, []⟩,
 ⟨(some 61), .p (.bin .sub (.t 60) (.c (.int .i64 1))), none, none, []⟩,
 ⟨(some 62), .p (.build [.int .i64 0, .int .i64 0] [(0, 1, (.t 58)), (1, 1, (.t 61))]), none, none, []⟩,
 ⟨(some 12), .alloc [.int .i64 0, .int .i64 0], none, none, []⟩,
 ⟨none, .store 2 (.t 12) (.t 62), none, none, []⟩])
 (.seq (.seq (.region 0 [⟨(some 63), .p (.move (.t 7)), none, none, []⟩,
 ⟨(some 64), .p (.bin .lss (.t 63) (.c (.int .i64 0))), none, none, []⟩,
 ⟨(some 65), .p (.move (.t 64)), none, none, []⟩,
 ⟨(some 66), .p (.move (.t 9)), (some (65, false)), none, []⟩,
 ⟨(some 67), .p (.bin .neq (.t 66) (.c (.int .i64 0))), (some (65, false)), none, []⟩,
 ⟨(some 68), .p (.pick (.t 65) (.c (.bool true)) (.t 67)), none, none, []⟩,
 ⟨(some 69), .p (.move (.t 68)), none, none, []⟩,
 ⟨(some 70), .p (.move (.t 8)), (some (69, false)), none, []⟩,
 ⟨(some 71), .p (.bin .lss (.t 70) (.c (.int .i64 0))), (some (69, false)), none, []⟩,
 ⟨(some 72), .p (.pick (.t 69) (.c (.bool true)) (.t 71)), none, none, []⟩,
 ⟨(some 73), .p (.move (.t 72)), none, none, []⟩,
 ⟨(some 74), .p (.move (.t 8)), (some (73, false)), none, []⟩,
 ⟨(some 75), .p (.move (.t 7)), (some (73, false)), none, []⟩,
 ⟨(some 76), .p (.bin .gtr (.t 74) (.t 75)), (some (73, false)), none, []⟩,
 ⟨(some 77), .p (.pick (.t 73) (.c (.bool true)) (.t 76)), none, none, []⟩,
 ⟨(some 78), .p (.move (.t 77)), none, none, []⟩,
 ⟨(some 79), .p (.move (.t 11)), (some (78, false)), none, []⟩,
 ⟨(some 80), .p (.bin .eql (.t 79) (.c (.int .i64 0))), (some (78, false)), none, []⟩,
 ⟨(some 81), .p (.move (.t 7)), (some (78, false)), none, []⟩,
 ⟨(some 82), .p (.bin .gtr (.t 81) (.c (.int .i64 0))), (some (78, false)), none, []⟩,
 ⟨(some 83), .p (.move (.t 82)), (some (78, false)), none, []⟩,
 ⟨(some 84), .p (.fieldAddr 1 (.t 3)), (some (83, true)), none, []⟩,
 ⟨(some 85), .load false 1 (.t 84), (some (83, true)), none, []⟩,
 ⟨(some 86), .p (.fieldAddr 0 (.t 3)), (some (83, true)), none, []⟩,
 ⟨(some 87), .load false 1 (.t 86), (some (83, true)), none, []⟩,
 ⟨(some 88), .p (.bin .mul (.t 85) (.t 87)), (some (83, true)), none, []⟩,
 ⟨(some 89), .p (.bin .gtr (.t 88) (.c (.int .i64 1))), (some (83, true)), none, []⟩,
 ⟨(some 90), .p (.pick (.t 83) (.t 89) (.c (.bool false))), (some (78, false)), none, []⟩,
 ⟨(some 91), .p (.eqB true (.t 80) (.t 90)), (some (78, false)), none, []⟩,
 ⟨(some 92), .p (.pick (.t 78) (.c (.bool true)) (.t 91)), none, none, []⟩,
 ⟨(some 93), .p (.move (.t 92)), none, none, []⟩,
 ⟨(some 94), .p (.move (.t 11)), (some (93, false)), none, []⟩,
 ⟨(some 95), .p (.bin .neq (.t 94) (.c (.int .i64 0))), (some (93, false)), none, []⟩,
 ⟨(some 96), .p (.move (.t 95)), (some (93, false)), none, []⟩,
 ⟨(some 97), .p (.move (.t 11)), (some (96, true)), none, []⟩,
 ⟨(some 98), .p (.bin .neq (.t 97) (.c (.int .i64 3))), (some (96, true)), none, []⟩,
 ⟨(some 99), .p (.pick (.t 96) (.t 98) (.c (.bool false))), (some (93, false)), none, []⟩,
 ⟨(some 100), .p (.pick (.t 93) (.c (.bool true)) (.t 99)), none, none, []⟩])
 (.cond (.t 100) (.seq (.region 0 [⟨(some 6), .p (.move (.c (.bool false))), none, none, []⟩])
 (.ret))
 (.skip)))
 (.seq (.seq (.region 0 [⟨(some 101), .p (.move (.t 11)), none, none, []⟩,
 ⟨(some 102), .p (.bin .neq (.t 101) (.c (.int .i64 0))), none, none, []⟩])
 (.cond (.t 102) (.seq (.region 0 [⟨(some 103), .call 1 19 [], none, none, []⟩,
 ⟨(some 6), .p (.move (.t 103)), none, none, []⟩])
 (.ret))
 (.skip)))
 (.seq (.region 0 [⟨(some 105), .load true 4 (.t 3), none, none, []⟩,
 ⟨(some 106), .load true 2 (.t 10), none, none, []⟩,
 ⟨(some 107), .call 1 48 [(.t 105), (.t 106)], none, none, []⟩,
 ⟨(some 104), .p (.move (.t 107)), none, none, []⟩,
 ⟨(some 108), .p (.extract (.t 104) 0), none, none, []⟩,
 ⟨(some 109), .p (.extract (.t 104) 1), none, none, []⟩,
 ⟨(some 13), .p (.move (.t 108)), none, none, []⟩,
 ⟨(some 14), .p (.move (.t 109)), none, none, []⟩])
 (.seq (.seq (.region 0 [⟨(some 110), .load true 4 (.t 3), none, none, []⟩,
 ⟨(some 111), .load true 2 (.t 10), none, none, []⟩,
 ⟨(some 112), .call 1 31 [(.t 110), (.t 111)], none, none, []⟩,
 ⟨(some 113), .p (.un .not (.t 112)), none, none, []⟩,
 ⟨(some 114), .p (.move (.t 113)), none, none, []⟩,
 ⟨(some 115), .load true 2 (.t 10), (some (114, false)), none, []⟩,
 ⟨(some 116), .load true 2 (.t 12), (some (114, false)), none, []⟩,
 ⟨(some 117), .p (.eqS false [true, true] (.t 115) (.t 116)), (some (114, false)), none, []⟩,
 ⟨(some 118), .p (.pick (.t 114) (.c (.bool true)) (.t 117)), none, none, []⟩,
 ⟨(some 119), .p (.move (.t 118)), none, none, []⟩,
 ⟨(some 120), .p (.move (.t 14)), (some (119, false)), none, []⟩,
 ⟨(some 121), .p (.bin .neq (.t 120) (.c (.int .i64 0))), (some (119, false)), none, []⟩,
 ⟨(some 122), .p (.pick (.t 119) (.c (.bool true)) (.t 121)), none, none, []⟩,
 ⟨(some 123), .p (.move (.t 122)), none, none, []⟩,
 ⟨(some 124), .p (.move (.t 13)), (some (123, false)), none, []⟩,
 ⟨(some 125), .p (.bin .lss (.t 124) (.c (.int .i64 0))), (some (123, false)), none, []⟩,
 ⟨(some 126), .p (.pick (.t 123) (.c (.bool true)) (.t 125)), none, none, []⟩,
 ⟨(some 127), .p (.move (.t 126)), none, none, []⟩,
 ⟨(some 128), .load true 2 (.t 4), (some (127, false)), none, []⟩,
 ⟨(some 129), .load true 2 (.t 12), (some (127, false)), none, []⟩,
 ⟨(some 130), .p (.eqS true [true, true] (.t 128) (.t 129)), (some (127, false)), none, []⟩,
 ⟨(some 131), .p (.move (.t 130)), (some (127, false)), none, []⟩,
 ⟨(some 132), .p (.move (.t 13)), (some (131, true)), none, []⟩,
 ⟨(some 133), .p (.move (.t 8)), (some (131, true)), none, []⟩,
 ⟨(some 134), .p (.bin .gtr (.t 132) (.t 133)), (some (131, true)), none, []⟩,
 ⟨(some 135), .p (.pick (.t 131) (.t 134) (.c (.bool false))), (some (127, false)), none, []⟩,
 ⟨(some 136), .p (.pick (.t 127) (.c (.bool true)) (.t 135)), none, none, []⟩])
 (.cond (.t 136) (.seq (.region 0 [⟨(some 6), .p (.move (.c (.bool false))), none, none, []⟩])
 (.ret))
 (.skip)))
 (.seq (.region 0 [⟨(some 138), .load true 4 (.t 3), none, none, []⟩,
 ⟨(some 139), .p (.fieldAddr 0 (.t 10)), none, none, []⟩,
 ⟨(some 140), .load false 1 (.t 139), none, none, []⟩,
 ⟨(some 141), .p (.fieldAddr 1 (.t 10)), none, none, []⟩,
 ⟨(some 142), .load false 1 (.t 141), none, none, []⟩,
 ⟨(some 143), .call 1 32 [(.t 138), (.t 140), (.t 142)], none, none, []⟩,
 ⟨(some 137), .p (.move (.t 143)), none, none, []⟩,
 ⟨(some 144), .p (.extract (.t 137) 0), none, none, []⟩,
 ⟨(some 145), .p (.extract (.t 137) 1), none, none, []⟩,
 ⟨(some 15), .alloc [.int .i64 0, .int .i64 0], none, none, []⟩,
 ⟨none, .store 2 (.t 15) (.t 144), none, none, []⟩,
 ⟨(some 16), .p (.move (.t 145)), none, none, []⟩])
 (.seq (.seq (.region 0 [⟨(some 146), .p (.move (.t 16)), none, none, []⟩,
 ⟨(some 147), .p (.bin .neq (.t 146) (.c (.int .i64 0))), none, none, []⟩])
 (.cond (.t 147) (.seq (.region 0 [⟨(some 6), .p (.move (.c (.bool false))), none, none, []⟩])
 (.ret))
 (.skip)))
 (.seq (.seq (.region 0 [⟨(some 148), .p (.move (.t 2)), none, none, []⟩,
 ⟨(some 149), .call 1 30 [(.t 148), (.c (.int .i64 0)), (.c (.int .i64 40))], none, none, []⟩,
 ⟨(some 150), .p (.un .not (.t 149)), none, none, []⟩,
 ⟨(some 151), .p (.move (.t 150)), none, none, []⟩,
 ⟨(some 152), .load true 2 (.t 15), (some (151, false)), none, []⟩,
 ⟨(some 153), .p (.move (.t 2)), (some (151, false)), none, []⟩,
 ⟨(some 154), .call 1 26 [(.t 152), (.t 153)], (some (151, false)), none, []⟩,
 ⟨(some 155), .p (.un .not (.t 154)), (some (151, false)), none, []⟩,
 ⟨(some 156), .p (.pick (.t 151) (.c (.bool true)) (.t 155)), none, none, []⟩])
 (.cond (.t 156) (.seq (.region 0 [⟨(some 157), .call 1 19 [], none, none, []⟩,
 ⟨(some 6), .p (.move (.t 157)), none, none, []⟩])
 (.ret))
 (.skip)))
 (.seq (.region 0 [⟨(some 158), .load true 4 (.t 3), none, none, []⟩,
 ⟨(some 159), .load true 2 (.t 10), none, none, []⟩,
 ⟨(some 160), .p (.move (.t 2)), none, none, []⟩,
 ⟨(some 161), .call 1 34 [(.t 158), (.t 159), (.t 160)], none, none, []⟩,
 ⟨(some 162), .call 1 47 [(.t 161)], none, none, []⟩,
 ⟨(some 17), .p (.move (.t 162)), none, none, []⟩])
 (.seq (.region 0 [⟨(some 163), .p (.move (.t 17)), none, none, []⟩,
 ⟨(some 164), .p (.bin .geq (.t 163) (.c (.int .i64 0))), none, none, []⟩,
 ⟨(some 165), .p (.move (.t 164)), none, none, []⟩,
 ⟨(some 166), .p (.move (.t 17)), (some (165, true)), none, []⟩,
 ⟨(some 167), .p (.move (.t 13)), (some (165, true)), none, []⟩,
 ⟨(some 168), .p (.bin .leq (.t 166) (.t 167)), (some (165, true)), none, []⟩,
 ⟨(some 169), .p (.pick (.t 165) (.t 168) (.c (.bool false))), none, none, []⟩,
 ⟨(some 170), .p (.move (.t 169)), none, none, []⟩,
 ⟨(some 171), .call 1 19 [], (some (170, true)), none, []⟩,
 ⟨(some 172), .p (.pick (.t 170) (.t 171) (.c (.bool false))), none, none, []⟩,
 ⟨(some 6), .p (.move (.t 172)), none, none, []⟩])
 (.ret)))))))))))))))⟩
/-- almadraba/almadrabalaw01.CountsIdle -/
def f10 : AFn := ⟨92, [.tmp 4],
 .seq (.region 0 [⟨(some 2), .box (.t 0), none, none, []⟩,
 ⟨(some 4), .p (.move (.c (.bool false))), none, none, []⟩])
 (.seq (.seq (.region 0 [⟨(some 10), .load true 4 (.t 2), none, none, []⟩,
 ⟨(some 11), .call 1 16 [(.t 10)], none, none, []⟩,
 ⟨(some 12), .p (.un .not (.t 11)), none, none, []⟩,
 ⟨(some 13), .p (.move (.t 12)), none, none, []⟩,
 ⟨(some 14), .load true 4 (.t 2), (some (13, false)), none, []⟩,
 ⟨(some 15), .call 1 36 [(.t 14)], (some (13, false)), none, []⟩,
 ⟨(some 16), .p (.un .not (.t 15)), (some (13, false)), none, []⟩,
 ⟨(some 17), .p (.pick (.t 13) (.c (.bool true)) (.t 16)), none, none, []⟩,
 ⟨(some 18), .p (.move (.t 17)), none, none, []⟩,
 ⟨(some 19), .p (.move (.t 1)), (some (18, false)), none, []⟩,
 ⟨(some 20), .p (.fieldAddr 3 (.t 2)), (some (18, false)), none, []⟩,
 ⟨(some 21), .load false 1 (.t 20), (some (18, false)), none, []⟩,
 ⟨(some 22), .p (.lenS (.t 21)), (some (18, false)), none, []⟩,
 ⟨(some 23), .p (.bin .sub (.t 22) (.c (.int .i64 1))), (some (18, false)), none, []⟩,
 ⟨(some 24), .call 1 30 [(.t 19), (.c (.int .i64 0)), (.t 23)], (some (18, false)), none, []⟩,
 ⟨(some 25), .p (.un .not (.t 24)), (some (18, false)), none, []⟩,
 ⟨(some 26), .p (.pick (.t 18) (.c (.bool true)) (.t 25)), none, none, []⟩])
 (.cond (.t 26) (.seq (.region 0 [⟨(some 27), .call 1 19 [], none, none, []⟩,
 ⟨(some 4), .p (.move (.t 27)), none, none, []⟩])
 (.ret))
 (.skip)))
 (.seq (.region 0 [⟨(some 29), .load true 4 (.t 2), none, none, []⟩,
 ⟨(some 30), .call 1 50 [(.t 29)], none, none, []⟩,
 ⟨(some 28), .p (.move (.t 30)), none, none, []⟩,
 ⟨(some 31), .p (.extract (.t 28) 0), none, none, []⟩,
 ⟨(some 32), .p (.extract (.t 28) 1), none, none, []⟩,
 ⟨(some 5), .p (.move (.t 31)), none, none, []⟩,
 ⟨(some 6), .p (.move (.t 32)), none, none, []⟩])
 (.seq (.region 0 [⟨(some 33), .load true 4 (.t 2), none, none, []⟩,
 ⟨(some 34), .p (.move (.t 1)), none, none, []⟩,
 ⟨(some 35), .call 1 51 [(.t 33), (.t 34)], none, none, []⟩,
 ⟨(some 7), .alloc [.int .i64 0, .int .i64 0, .nils, .nils], none, none, []⟩,
 ⟨none, .store 4 (.t 7) (.t 35), none, none, []⟩])
 (.seq (.region 0 [⟨(some 37), .load true 4 (.t 7), none, none, []⟩,
 ⟨(some 38), .p (.fieldAddr 3 (.t 2)), none, none, []⟩,
 ⟨(some 39), .load false 1 (.t 38), none, none, []⟩,
 ⟨(some 40), .p (.move (.t 1)), none, none, []⟩,
 ⟨(some 41), .p (.idxSl 4 (.t 39) (.t 40)), none, none, []⟩,
 ⟨(some 42), .load true 4 (.t 41), none, none, []⟩,
 ⟨(some 43), .call 1 29 [(.t 37), (.t 42)], none, none, []⟩,
 ⟨(some 36), .p (.move (.t 43)), none, none, []⟩,
 ⟨(some 44), .p (.extract (.t 36) 0), none, none, []⟩,
 ⟨(some 45), .p (.extract (.t 36) 1), none, none, []⟩,
 ⟨(some 8), .p (.move (.t 44)), none, none, []⟩,
 ⟨(some 9), .p (.move (.t 45)), none, none, []⟩])
 (.seq (.seq (.region 0 [⟨(some 46), .p (.move (.t 6)), none, none, []⟩,
 ⟨(some 47), .p (.bin .neq (.t 46) (.c (.int .i64 0))), none, none, []⟩,
 ⟨(some 48), .p (.move (.t 47)), none, none, []⟩,
 ⟨(some 49), .p (.move (.t 9)), (some (48, false)), none, []⟩,
 ⟨(some 50), .p (.bin .neq (.t 49) (.c (.int .i64 0))), (some (48, false)), none, []⟩,
 ⟨(some 51), .p (.pick (.t 48) (.c (.bool true)) (.t 50)), none, none, []⟩,
 ⟨(some 52), .p (.move (.t 51)), none, none, []⟩,
 ⟨(some 53), .p (.move (.t 5)), (some (52, false)), none, []⟩,
 ⟨(some 54), .p (.lenS (.t 53)), (some (52, false)), none, []⟩,
 ⟨(some 55), .p (.fieldAddr 3 (.t 2)), (some (52, false)), none, []⟩,
 ⟨(some 56), .load false 1 (.t 55), (some (52, false)), none, []⟩,
 ⟨(some 57), .p (.lenS (.t 56)), (some (52, false)), none, []⟩,
 ⟨(some 58), .p (.bin .gtr (.t 54) (.t 57)), (some (52, false)), none, []⟩,
 ⟨(some 59), .p (.pick (.t 52) (.c (.bool true)) (.t 58)), none, none, []⟩,
 ⟨(some 60), .p (.move (.t 59)), none, none, []⟩,
 ⟨(some 61), .p (.move (.t 5)), (some (60, false)), none, []⟩,
 ⟨(some 62), .p (.fieldAddr 3 (.t 2)), (some (60, false)), none, []⟩,
 ⟨(some 63), .load false 1 (.t 62), (some (60, false)), none, []⟩,
 ⟨(some 64), .p (.lenS (.t 63)), (some (60, false)), none, []⟩,
 ⟨(some 65), .p (.bin .sub (.t 64) (.c (.int .i64 1))), (some (60, false)), none, []⟩,
 ⟨(some 66), .call 1 52 [(.t 61), (.c (.int .i64 0)), (.t 65)], (some (60, false)), none, []⟩,
 ⟨(some 67), .p (.un .not (.t 66)), (some (60, false)), none, []⟩,
 ⟨(some 68), .p (.pick (.t 60) (.c (.bool true)) (.t 67)), none, none, []⟩,
 ⟨(some 69), .p (.move (.t 68)), none, none, []⟩,
 ⟨(some 70), .p (.move (.t 5)), (some (69, false)), none, []⟩,
 ⟨(some 71), .p (.move (.t 1)), (some (69, false)), none, []⟩,
 ⟨(some 72), .call 1 40 [(.t 70), (.t 71)], (some (69, false)), none, []⟩,
 ⟨(some 73), .p (.move (.t 8)), (some (69, false)), none, []⟩,
 ⟨(some 74), .p (.bin .eql (.t 73) (.c (.int .i64 1))), (some (69, false)), none, []⟩,
 ⟨(some 75), .p (.eqB true (.t 72) (.t 74)), (some (69, false)), none, []⟩,
 ⟨(some 76), .p (.pick (.t 69) (.c (.bool true)) (.t 75)), none, none, []⟩])
 (.cond (.t 76) (.seq (.region 0 [⟨(some 4), .p (.move (.c (.bool false))), none, none, []⟩])
 (.ret))
 (.skip)))
 (.seq (.region 0 [⟨(some 77), .p (.move (.t 8)), none, none, []⟩,
 ⟨(some 78), .p (.bin .neq (.t 77) (.c (.int .i64 1))), none, none, []⟩,
 ⟨(some 79), .p (.move (.t 78)), none, none, []⟩,
 ⟨(some 80), .load true 4 (.t 2), (some (79, false)), none, []⟩,
 ⟨(some 81), .load true 4 (.t 7), (some (79, false)), none, []⟩,
 ⟨(some 82), .call 1 37 [(.t 80), (.t 81)], (some (79, false)), none, []⟩,
 ⟨(some 83), .p (.move (.t 82)), (some (79, false)), none, []⟩,
 ⟨(some 84), .load true 4 (.t 7), (some (83, true)), none, []⟩,
 ⟨(some 85), .load true 4 (.t 2), (some (83, true)), none, []⟩,
 ⟨(some 86), .call 1 37 [(.t 84), (.t 85)], (some (83, true)), none, []⟩,
 ⟨(some 87), .p (.pick (.t 83) (.t 86) (.c (.bool false))), (some (79, false)), none, []⟩,
 ⟨(some 88), .p (.pick (.t 79) (.c (.bool true)) (.t 87)), none, none, []⟩,
 ⟨(some 89), .p (.move (.t 88)), none, none, []⟩,
 ⟨(some 90), .call 1 19 [], (some (89, true)), none, []⟩,
 ⟨(some 91), .p (.pick (.t 89) (.t 90) (.c (.bool false))), none, none, []⟩,
 ⟨(some 4), .p (.move (.t 91)), none, none, []⟩])
 (.ret)))))))⟩
/-- almadraba/almadrabalaw01.ready -/
def f16 : AFn := ⟨11, [.tmp 2],
 .seq (.region 0 [⟨(some 1), .box (.t 0), none, none, []⟩,
 ⟨(some 2), .p (.move (.c (.bool false))), none, none, []⟩])
 (.seq (.region 0 [⟨(some 3), .load true 4 (.t 1), none, none, []⟩,
 ⟨(some 4), .call 1 53 [(.t 3)], none, none, []⟩,
 ⟨(some 5), .p (.un .not (.t 4)), none, none, []⟩,
 ⟨(some 6), .p (.move (.t 5)), none, none, []⟩,
 ⟨(some 7), .load true 4 (.t 1), (some (6, true)), none, []⟩,
 ⟨(some 8), .call 1 55 [(.t 7)], (some (6, true)), none, []⟩,
 ⟨(some 9), .p (.bin .eql (.t 8) (.c (.int .i64 0))), (some (6, true)), none, []⟩,
 ⟨(some 10), .p (.pick (.t 6) (.t 9) (.c (.bool false))), none, none, []⟩,
 ⟨(some 2), .p (.move (.t 10)), none, none, []⟩])
 (.ret))⟩
/-- almadraba/almadrabalaw01.huge -/
def f17 : AFn := ⟨19, [.tmp 2],
 .seq (.region 0 [⟨(some 2), .p (.move (.c (.bool false))), none, none, []⟩])
 (.seq (.seq (.region 0 [⟨(some 4), .p (.move (.t 0)), none, none, []⟩,
 ⟨(some 5), .p (.lenS (.t 4)), none, none, []⟩,
 ⟨(some 6), .p (.bin .gtr (.t 5) (.c (.int .i64 40))), none, none, []⟩])
 (.cond (.t 6) (.seq (.region 0 [⟨(some 2), .p (.move (.c (.bool true))), none, none, []⟩])
 (.ret))
 (.skip)))
 (.seq (.seq (.region 0 [⟨(some 3), .p (.move (.c (.int .i64 0))), none, none, []⟩])
 (.block 0 (.loop (.seq (.seq (.region 0 [⟨(some 7), .p (.move (.t 3)), none, none, []⟩,
 ⟨(some 8), .p (.move (.t 0)), none, none, []⟩,
 ⟨(some 9), .p (.lenS (.t 8)), none, none, []⟩,
 ⟨(some 10), .p (.bin .lss (.t 7) (.t 9)), none, none, []⟩])
 (.cond (.t 10) (.skip)
 (.exit 0)))
 (.seq (.block 1 (.seq (.region 0 [⟨(some 13), .p (.move (.t 0)), none, none, []⟩,
 ⟨(some 14), .p (.move (.t 3)), none, none, []⟩,
 ⟨(some 15), .p (.idxSl 1 (.t 13) (.t 14)), none, none, []⟩,
 ⟨(some 16), .load false 1 (.t 15), none, none, []⟩,
 ⟨(some 17), .p (.lenS (.t 16)), none, none, []⟩,
 ⟨(some 18), .p (.bin .gtr (.t 17) (.c (.int .i64 40))), none, none, []⟩])
 (.cond (.t 18) (.seq (.region 0 [⟨(some 2), .p (.move (.c (.bool true))), none, none, []⟩])
 (.ret))
 (.skip))))
 (.region 0 [⟨(some 11), .p (.move (.t 3)), none, none, []⟩,
 ⟨(some 12), .p (.bin .add (.t 11) (.c (.int .i64 1))), none, none, []⟩,
 ⟨(some 3), .p (.move (.t 12)), none, none, []⟩]))))))
 (.seq (.region 0 [⟨(some 2), .p (.move (.c (.bool false))), none, none, []⟩])
 (.ret))))⟩
/-- almadraba/almadrabalaw01.works -/
def f19 : AFn := ⟨112, [.tmp 0],
 .seq (.region 0 [⟨(some 0), .p (.move (.c (.bool false))), none, none, []⟩])
 (.seq (.region 0 [⟨(some 18), .call 1 70 [], none, none, []⟩,
 ⟨(some 17), .p (.move (.t 18)), none, none, []⟩,
 ⟨(some 19), .p (.extract (.t 17) 0), none, none, []⟩,
 ⟨(some 20), .p (.extract (.t 17) 1), none, none, []⟩,
 ⟨(some 1), .alloc [.int .i64 0, .int .i64 0, .nils, .nils], none, none, []⟩,
 ⟨(some 2), .alloc [.int .i64 0, .int .i64 0, .nils, .nils], none, none, []⟩,
 ⟨none, .store 4 (.t 1) (.t 19), none, none, []⟩,
 ⟨none, .store 4 (.t 2) (.t 20), none, none, []⟩])
 (.seq (.region 0 [⟨(some 22), .load true 4 (.t 1), none, none, []⟩,
 ⟨(some 23), .call 1 32 [(.t 22), (.c (.int .i64 2)), (.c (.int .i64 1))], none, none, []⟩,
 ⟨(some 21), .p (.move (.t 23)), none, none, []⟩,
 ⟨(some 24), .p (.extract (.t 21) 0), none, none, []⟩,
 ⟨(some 25), .p (.extract (.t 21) 1), none, none, []⟩,
 ⟨(some 3), .alloc [.int .i64 0, .int .i64 0], none, none, []⟩,
 ⟨none, .store 2 (.t 3) (.t 24), none, none, []⟩,
 ⟨(some 4), .p (.move (.t 25)), none, none, []⟩])
 (.seq (.region 0 [⟨(some 27), .load true 4 (.t 1), none, none, []⟩,
 ⟨(some 28), .call 1 23 [(.t 27), (.c (.int .i64 2))], none, none, []⟩,
 ⟨(some 26), .p (.move (.t 28)), none, none, []⟩,
 ⟨(some 29), .p (.extract (.t 26) 0), none, none, []⟩,
 ⟨(some 30), .p (.extract (.t 26) 1), none, none, []⟩,
 ⟨(some 5), .alloc [.int .i64 0, .int .i64 0], none, none, []⟩,
 ⟨none, .store 2 (.t 5) (.t 29), none, none, []⟩,
 ⟨(some 6), .p (.move (.t 30)), none, none, []⟩])
 (.seq (.region 0 [⟨(some 32), .load true 4 (.t 1), none, none, []⟩,
 ⟨(some 33), .call 1 27 [(.t 32), (.c (.int .i64 1)), (.c (.int .i64 1))], none, none, []⟩,
 ⟨(some 31), .p (.move (.t 33)), none, none, []⟩,
 ⟨(some 34), .p (.extract (.t 31) 0), none, none, []⟩,
 ⟨(some 35), .p (.extract (.t 31) 1), none, none, []⟩,
 ⟨(some 7), .alloc [.int .i64 0, .int .i64 0], none, none, []⟩,
 ⟨none, .store 2 (.t 7) (.t 34), none, none, []⟩,
 ⟨(some 8), .p (.move (.t 35)), none, none, []⟩])
 (.seq (.region 0 [⟨(some 37), .load true 4 (.t 1), none, none, []⟩,
 ⟨(some 38), .call 1 71 [(.c (.int .i64 0)), (.c (.int .i64 0)), (.c (.int .i64 7)), (.c (.int .i64 9))], none, none, []⟩,
 ⟨(some 39), .call 1 29 [(.t 37), (.t 38)], none, none, []⟩,
 ⟨(some 36), .p (.move (.t 39)), none, none, []⟩,
 ⟨(some 40), .p (.extract (.t 36) 0), none, none, []⟩,
 ⟨(some 41), .p (.extract (.t 36) 1), none, none, []⟩,
 ⟨(some 9), .p (.move (.t 40)), none, none, []⟩,
 ⟨(some 10), .p (.move (.t 41)), none, none, []⟩])
 (.seq (.region 0 [⟨(some 43), .load true 4 (.t 1), none, none, []⟩,
 ⟨(some 44), .call 1 44 [(.t 43), (.c (.int .i64 4))], none, none, []⟩,
 ⟨(some 42), .p (.move (.t 44)), none, none, []⟩,
 ⟨(some 45), .p (.extract (.t 42) 0), none, none, []⟩,
 ⟨(some 46), .p (.extract (.t 42) 1), none, none, []⟩,
 ⟨(some 11), .alloc [.int .i64 0, .int .i64 0], none, none, []⟩,
 ⟨none, .store 2 (.t 11) (.t 45), none, none, []⟩,
 ⟨(some 12), .p (.move (.t 46)), none, none, []⟩])
 (.seq (.region 0 [⟨(some 48), .load true 4 (.t 1), none, none, []⟩,
 ⟨(some 49), .p (.build [.int .i64 0, .int .i64 0] [(0, 1, (.c (.int .i64 2)))]), none, none, []⟩,
 ⟨(some 50), .call 1 48 [(.t 48), (.t 49)], none, none, []⟩,
 ⟨(some 47), .p (.move (.t 50)), none, none, []⟩,
 ⟨(some 51), .p (.extract (.t 47) 0), none, none, []⟩,
 ⟨(some 52), .p (.extract (.t 47) 1), none, none, []⟩,
 ⟨(some 13), .p (.move (.t 51)), none, none, []⟩,
 ⟨(some 14), .p (.move (.t 52)), none, none, []⟩])
 (.seq (.region 0 [⟨(some 54), .load true 4 (.t 2), none, none, []⟩,
 ⟨(some 55), .call 1 33 [(.t 54)], none, none, []⟩,
 ⟨(some 53), .p (.move (.t 55)), none, none, []⟩,
 ⟨(some 56), .p (.extract (.t 53) 0), none, none, []⟩,
 ⟨(some 57), .p (.extract (.t 53) 1), none, none, []⟩,
 ⟨(some 15), .p (.move (.t 56)), none, none, []⟩,
 ⟨(some 16), .p (.move (.t 57)), none, none, []⟩])
 (.seq (.region 0 [⟨(some 58), .p (.move (.t 4)), none, none, []⟩,
 ⟨(some 59), .p (.bin .eql (.t 58) (.c (.int .i64 0))), none, none, []⟩,
 ⟨(some 60), .p (.move (.t 59)), none, none, []⟩,
 ⟨(some 61), .p (.move (.t 6)), (some (60, true)), none, []⟩,
 ⟨(some 62), .p (.bin .eql (.t 61) (.c (.int .i64 0))), (some (60, true)), none, []⟩,
 ⟨(some 63), .p (.pick (.t 60) (.t 62) (.c (.bool false))), none, none, []⟩,
 ⟨(some 64), .p (.move (.t 63)), none, none, []⟩,
 ⟨(some 65), .p (.move (.t 8)), (some (64, true)), none, []⟩,
 ⟨(some 66), .p (.bin .eql (.t 65) (.c (.int .i64 0))), (some (64, true)), none, []⟩,
 ⟨(some 67), .p (.pick (.t 64) (.t 66) (.c (.bool false))), none, none, []⟩,
 ⟨(some 68), .p (.move (.t 67)), none, none, []⟩,
 ⟨(some 69), .p (.move (.t 10)), (some (68, true)), none, []⟩,
 ⟨(some 70), .p (.bin .eql (.t 69) (.c (.int .i64 0))), (some (68, true)), none, []⟩,
 ⟨(some 71), .p (.pick (.t 68) (.t 70) (.c (.bool false))), none, none, []⟩,
 ⟨(some 72), .p (.move (.t 71)), none, none, []⟩,
 ⟨(some 73), .p (.move (.t 12)), (some (72, true)), none, []⟩,
 ⟨(some 74), .p (.bin .eql (.t 73) (.c (.int .i64 0))), (some (72, true)), none, []⟩,
 ⟨(some 75), .p (.pick (.t 72) (.t 74) (.c (.bool false))), none, none, []⟩,
 ⟨(some 76), .p (.move (.t 75)), none, none, []⟩,
 ⟨(some 77), .p (.move (.t 14)), (some (76, true)), none, []⟩,
 ⟨(some 78), .p (.bin .eql (.t 77) (.c (.int .i64 0))), (some (76, true)), none, []⟩,
 ⟨(some 79), .p (.pick (.t 76) (.t 78) (.c (.bool false))), none, none, []⟩,
 ⟨(some 80), .p (.move (.t 79)), none, none, []⟩,
 ⟨(some 81), .p (.move (.t 16)), (some (80, true)), none, []⟩,
 ⟨(some 82), .p (.bin .eql (.t 81) (.c (.int .i64 3))), (some (80, true)), none, []⟩,
 ⟨(some 83), .p (.pick (.t 80) (.t 82) (.c (.bool false))), none, none, []⟩,
 ⟨(some 84), .p (.move (.t 83)), none, none, []⟩,
 ⟨(some 85), .load true 2 (.t 3), (some (84, true)), none, []⟩,
 ⟨(some 86), .p (.build [.int .i64 0, .int .i64 0] [(0, 1, (.c (.int .i64 4))), (1, 1, (.c (.int .i64 10)))]), (some (84, true)), none, []⟩,
 ⟨(some 87), .p (.eqS false [true, true] (.t 85) (.t 86)), (some (84, true)), none, []⟩,
 ⟨(some 88), .p (.pick (.t 84) (.t 87) (.c (.bool false))), none, none, []⟩,
 ⟨(some 89), .p (.move (.t 88)), none, none, []⟩,
 ⟨(some 90), .load true 2 (.t 5), (some (89, true)), none, []⟩,
 ⟨(some 91), .p (.build [.int .i64 0, .int .i64 0] [(0, 1, (.c (.int .i64 5))), (1, 1, (.c (.int .i64 18)))]), (some (89, true)), none, []⟩,
 ⟨(some 92), .p (.eqS false [true, true] (.t 90) (.t 91)), (some (89, true)), none, []⟩,
 ⟨(some 93), .p (.pick (.t 89) (.t 92) (.c (.bool false))), none, none, []⟩,
 ⟨(some 94), .p (.move (.t 93)), none, none, []⟩,
 ⟨(some 95), .load true 2 (.t 7), (some (94, true)), none, []⟩,
 ⟨(some 96), .p (.build [.int .i64 0, .int .i64 0] [(0, 1, (.c (.int .i64 0))), (1, 1, (.c (.int .i64 8)))]), (some (94, true)), none, []⟩,
 ⟨(some 97), .p (.eqS false [true, true] (.t 95) (.t 96)), (some (94, true)), none, []⟩,
 ⟨(some 98), .p (.pick (.t 94) (.t 97) (.c (.bool false))), none, none, []⟩,
 ⟨(some 99), .p (.move (.t 98)), none, none, []⟩,
 ⟨(some 100), .p (.move (.t 9)), (some (99, true)), none, []⟩,
 ⟨(some 101), .p (.bin .eql (.t 100) (.c (.int .i64 2))), (some (99, true)), none, []⟩,
 ⟨(some 102), .p (.pick (.t 99) (.t 101) (.c (.bool false))), none, none, []⟩,
 ⟨(some 103), .p (.move (.t 102)), none, none, []⟩,
 ⟨(some 104), .load true 2 (.t 11), (some (103, true)), none, []⟩,
 ⟨(some 105), .p (.build [.int .i64 0, .int .i64 0] [(0, 1, (.c (.int .i64 1))), (1, 1, (.c (.int .i64 2)))]), (some (103, true)), none, []⟩,
 ⟨(some 106), .p (.eqS false [true, true] (.t 104) (.t 105)), (some (103, true)), none, []⟩,
 ⟨(some 107), .p (.pick (.t 103) (.t 106) (.c (.bool false))), none, none, []⟩,
 ⟨(some 108), .p (.move (.t 107)), none, none, []⟩,
 ⟨(some 109), .p (.move (.t 13)), (some (108, true)), none, []⟩,
 ⟨(some 110), .p (.bin .eql (.t 109) (.c (.int .i64 6))), (some (108, true)), none, []⟩,
 ⟨(some 111), .p (.pick (.t 108) (.t 110) (.c (.bool false))), none, none, []⟩,
 ⟨(some 0), .p (.move (.t 111)), none, none, []⟩])
 (.ret))))))))))⟩
/-- almadraba/counts.Whole -/
def f23 : AFn := ⟨27, [.cell true 2 4, .tmp 5],
 .seq (.region 0 [⟨(some 2), .box (.t 0), none, none, []⟩,
 ⟨(some 4), .alloc [.int .i64 0, .int .i64 0], none, none, []⟩,
 ⟨(some 5), .p (.move (.c (.int .i64 0))), none, none, []⟩])
 (.seq (.region 0 [⟨(some 9), .load true 4 (.t 2), none, none, []⟩,
 ⟨(some 10), .load true 4 (.t 2), none, none, []⟩,
 ⟨(some 11), .p (.move (.t 1)), none, none, []⟩,
 ⟨(some 12), .call 1 74 [(.t 10), (.t 11)], none, none, []⟩,
 ⟨(some 13), .call 2 73 [(.t 9), (.t 12)], none, none, []⟩,
 ⟨(some 8), .p (.move (.t 13)), none, none, []⟩,
 ⟨(some 14), .p (.extract (.t 8) 0), none, none, []⟩,
 ⟨(some 15), .p (.extract (.t 8) 1), none, none, []⟩,
 ⟨(some 6), .p (.move (.t 14)), none, none, []⟩,
 ⟨(some 7), .p (.move (.t 15)), none, none, []⟩])
 (.seq (.seq (.region 0 [⟨(some 16), .p (.move (.t 7)), none, none, []⟩,
 ⟨(some 17), .p (.bin .neq (.t 16) (.c (.int .i64 0))), none, none, []⟩])
 (.cond (.t 17) (.seq (.region 0 [⟨(some 18), .p (.build [.int .i64 0, .int .i64 0] []), none, none, []⟩,
 ⟨(some 19), .p (.move (.t 7)), none, none, []⟩,
 ⟨none, .store 2 (.t 4) (.t 18), none, none, []⟩,
 ⟨(some 5), .p (.move (.t 19)), none, none, []⟩])
 (.ret))
 (.skip)))
 (.seq (.region 0 [⟨(some 20), .p (.move (.t 6)), none, none, []⟩,
 ⟨(some 21), .p (.nilCheck (.t 20)), none, none, []⟩,
 ⟨(some 22), .p (.fieldAddr 4 (.t 21)), none, none, []⟩,
 ⟨(some 23), .p (.move (.t 6)), none, none, []⟩,
 ⟨(some 24), .p (.move (.t 1)), none, none, []⟩,
 ⟨(some 25), .call 3 76 [(.t 23), (.t 24), (.c (.int .i64 0))], none, none, []⟩,
 ⟨(some 26), .call 3 75 [(.t 22), (.t 25), (.c (.int .i64 0))], none, none, []⟩,
 ⟨none, .store 2 (.t 4) (.t 26), none, none, []⟩,
 ⟨(some 5), .p (.move (.c (.int .i64 0))), none, none, []⟩])
 (.ret))))⟩
/-- almadraba/almadrabalaw01.has -/
def f26 : AFn := ⟨15, [.tmp 4],
 .seq (.region 0 [⟨(some 2), .box (.t 0), none, none, []⟩,
 ⟨(some 4), .p (.move (.c (.bool false))), none, none, []⟩])
 (.seq (.region 0 [⟨(some 5), .p (.fieldAddr 0 (.t 2)), none, none, []⟩,
 ⟨(some 6), .load false 1 (.t 5), none, none, []⟩,
 ⟨(some 7), .p (.move (.t 1)), none, none, []⟩,
 ⟨(some 8), .p (.bin .leq (.t 6) (.t 7)), none, none, []⟩,
 ⟨(some 9), .p (.move (.t 8)), none, none, []⟩,
 ⟨(some 10), .p (.move (.t 1)), (some (9, true)), none, []⟩,
 ⟨(some 11), .p (.fieldAddr 1 (.t 2)), (some (9, true)), none, []⟩,
 ⟨(some 12), .load false 1 (.t 11), (some (9, true)), none, []⟩,
 ⟨(some 13), .p (.bin .leq (.t 10) (.t 12)), (some (9, true)), none, []⟩,
 ⟨(some 14), .p (.pick (.t 9) (.t 13) (.c (.bool false))), none, none, []⟩,
 ⟨(some 4), .p (.move (.t 14)), none, none, []⟩])
 (.ret))⟩
/-- almadraba/counts.Passed -/
def f27 : AFn := ⟨44, [.cell true 2 6, .tmp 7],
 .seq (.region 0 [⟨(some 3), .box (.t 0), none, none, []⟩,
 ⟨(some 6), .alloc [.int .i64 0, .int .i64 0], none, none, []⟩,
 ⟨(some 7), .p (.move (.c (.int .i64 0))), none, none, []⟩])
 (.seq (.region 0 [⟨(some 11), .load true 4 (.t 3), none, none, []⟩,
 ⟨(some 12), .p (.move (.t 1)), none, none, []⟩,
 ⟨(some 13), .p (.bin .leq (.c (.int .i64 0)) (.t 12)), none, none, []⟩,
 ⟨(some 14), .p (.move (.t 13)), none, none, []⟩,
 ⟨(some 15), .p (.move (.t 1)), (some (14, true)), none, []⟩,
 ⟨(some 16), .p (.fieldAddr 2 (.t 3)), (some (14, true)), none, []⟩,
 ⟨(some 17), .load false 1 (.t 16), (some (14, true)), none, []⟩,
 ⟨(some 18), .p (.lenS (.t 17)), (some (14, true)), none, []⟩,
 ⟨(some 19), .p (.bin .lss (.t 15) (.t 18)), (some (14, true)), none, []⟩,
 ⟨(some 20), .p (.pick (.t 14) (.t 19) (.c (.bool false))), none, none, []⟩,
 ⟨(some 21), .p (.move (.t 20)), none, none, []⟩,
 ⟨(some 22), .p (.move (.t 2)), (some (21, true)), none, []⟩,
 ⟨(some 23), .p (.bin .leq (.c (.int .i64 0)) (.t 22)), (some (21, true)), none, []⟩,
 ⟨(some 24), .p (.pick (.t 21) (.t 23) (.c (.bool false))), none, none, []⟩,
 ⟨(some 25), .p (.move (.t 24)), none, none, []⟩,
 ⟨(some 26), .p (.move (.t 2)), (some (25, true)), none, []⟩,
 ⟨(some 27), .p (.fieldAddr 0 (.t 3)), (some (25, true)), none, []⟩,
 ⟨(some 28), .load false 1 (.t 27), (some (25, true)), none, []⟩,
 ⟨(some 29), .p (.bin .lss (.t 26) (.t 28)), (some (25, true)), none, []⟩,
 ⟨(some 30), .p (.pick (.t 25) (.t 29) (.c (.bool false))), none, none, []⟩,
 ⟨(some 31), .call 2 73 [(.t 11), (.t 30)], none, none, []⟩,
 ⟨(some 10), .p (.move (.t 31)), none, none, []⟩,
 ⟨(some 32), .p (.extract (.t 10) 0), none, none, []⟩,
 ⟨(some 33), .p (.extract (.t 10) 1), none, none, []⟩,
 ⟨(some 8), .p (.move (.t 32)), none, none, []⟩,
 ⟨(some 9), .p (.move (.t 33)), none, none, []⟩])
 (.seq (.seq (.region 0 [⟨(some 34), .p (.move (.t 9)), none, none, []⟩,
 ⟨(some 35), .p (.bin .neq (.t 34) (.c (.int .i64 0))), none, none, []⟩])
 (.cond (.t 35) (.seq (.region 0 [⟨(some 36), .p (.build [.int .i64 0, .int .i64 0] []), none, none, []⟩,
 ⟨(some 37), .p (.move (.t 9)), none, none, []⟩,
 ⟨none, .store 2 (.t 6) (.t 36), none, none, []⟩,
 ⟨(some 7), .p (.move (.t 37)), none, none, []⟩])
 (.ret))
 (.skip)))
 (.seq (.region 0 [⟨(some 38), .p (.move (.t 8)), none, none, []⟩,
 ⟨(some 39), .p (.move (.t 2)), none, none, []⟩,
 ⟨(some 40), .p (.move (.t 1)), none, none, []⟩,
 ⟨(some 41), .p (.move (.t 1)), none, none, []⟩,
 ⟨(some 42), .p (.bin .add (.t 41) (.c (.int .i64 1))), none, none, []⟩,
 ⟨(some 43), .call 3 77 [(.t 38), (.t 39), (.t 40), (.t 42)], none, none, []⟩,
 ⟨none, .store 2 (.t 6) (.t 43), none, none, []⟩,
 ⟨(some 7), .p (.move (.c (.int .i64 0))), none, none, []⟩])
 (.ret))))⟩
/-- almadraba/almadrabaref01.IsWord -/
def f28 : AFn := ⟨27, [.tmp 4],
 .seq (.region 0 [⟨(some 2), .box (.t 0), none, none, []⟩,
 ⟨(some 3), .box (.t 1), none, none, []⟩,
 ⟨(some 4), .p (.move (.c (.bool false))), none, none, []⟩])
 (.seq (.region 0 [⟨(some 5), .load true 4 (.t 2), none, none, []⟩,
 ⟨(some 6), .p (.fieldAddr 0 (.t 3)), none, none, []⟩,
 ⟨(some 7), .load false 1 (.t 6), none, none, []⟩,
 ⟨(some 8), .call 1 45 [(.t 5), (.t 7)], none, none, []⟩,
 ⟨(some 9), .p (.move (.t 8)), none, none, []⟩,
 ⟨(some 10), .load true 4 (.t 2), (some (9, true)), none, []⟩,
 ⟨(some 11), .p (.fieldAddr 1 (.t 3)), (some (9, true)), none, []⟩,
 ⟨(some 12), .load false 1 (.t 11), (some (9, true)), none, []⟩,
 ⟨(some 13), .call 1 39 [(.t 10), (.t 12)], (some (9, true)), none, []⟩,
 ⟨(some 14), .p (.pick (.t 9) (.t 13) (.c (.bool false))), none, none, []⟩,
 ⟨(some 15), .p (.move (.t 14)), none, none, []⟩,
 ⟨(some 16), .p (.fieldAddr 3 (.t 3)), (some (15, true)), none, []⟩,
 ⟨(some 17), .load false 1 (.t 16), (some (15, true)), none, []⟩,
 ⟨(some 18), .call 1 30 [(.t 17), (.c (.int .i64 0)), (.c (.int .i64 40))], (some (15, true)), none, []⟩,
 ⟨(some 19), .p (.pick (.t 15) (.t 18) (.c (.bool false))), none, none, []⟩,
 ⟨(some 20), .p (.move (.t 19)), none, none, []⟩,
 ⟨(some 21), .p (.fieldAddr 2 (.t 3)), (some (20, true)), none, []⟩,
 ⟨(some 22), .load false 1 (.t 21), (some (20, true)), none, []⟩,
 ⟨(some 23), .p (.fieldAddr 3 (.t 3)), (some (20, true)), none, []⟩,
 ⟨(some 24), .load false 1 (.t 23), (some (20, true)), none, []⟩,
 ⟨(some 25), .call 1 30 [(.t 22), (.c (.int .i64 0)), (.t 24)], (some (20, true)), none, []⟩,
 ⟨(some 26), .p (.pick (.t 20) (.t 25) (.c (.bool false))), none, none, []⟩,
 ⟨(some 4), .p (.move (.t 26)), none, none, []⟩])
 (.ret))⟩
/-- almadraba/counts.Judge -/
def f29 : AFn := ⟨22, [.tmp 4, .tmp 5],
 .seq (.region 0 [⟨(some 2), .box (.t 0), none, none, []⟩,
 ⟨(some 3), .box (.t 1), none, none, []⟩,
 ⟨(some 4), .p (.move (.c (.int .i64 0))), none, none, []⟩,
 ⟨(some 5), .p (.move (.c (.int .i64 0))), none, none, []⟩])
 (.seq (.region 0 [⟨(some 9), .load true 4 (.t 2), none, none, []⟩,
 ⟨(some 10), .load true 4 (.t 2), none, none, []⟩,
 ⟨(some 11), .load true 4 (.t 3), none, none, []⟩,
 ⟨(some 12), .call 1 79 [(.t 10), (.t 11)], none, none, []⟩,
 ⟨(some 13), .call 2 73 [(.t 9), (.t 12)], none, none, []⟩,
 ⟨(some 8), .p (.move (.t 13)), none, none, []⟩,
 ⟨(some 14), .p (.extract (.t 8) 0), none, none, []⟩,
 ⟨(some 15), .p (.extract (.t 8) 1), none, none, []⟩,
 ⟨(some 6), .p (.move (.t 14)), none, none, []⟩,
 ⟨(some 7), .p (.move (.t 15)), none, none, []⟩])
 (.seq (.seq (.region 0 [⟨(some 16), .p (.move (.t 7)), none, none, []⟩,
 ⟨(some 17), .p (.bin .neq (.t 16) (.c (.int .i64 0))), none, none, []⟩])
 (.cond (.t 17) (.seq (.region 0 [⟨(some 18), .p (.move (.t 7)), none, none, []⟩,
 ⟨(some 4), .p (.move (.c (.int .i64 0))), none, none, []⟩,
 ⟨(some 5), .p (.move (.t 18)), none, none, []⟩])
 (.ret))
 (.skip)))
 (.seq (.region 0 [⟨(some 19), .p (.move (.t 6)), none, none, []⟩,
 ⟨(some 20), .load true 4 (.t 3), none, none, []⟩,
 ⟨(some 21), .call 3 80 [(.t 19), (.t 20)], none, none, []⟩,
 ⟨(some 4), .p (.move (.t 21)), none, none, []⟩,
 ⟨(some 5), .p (.move (.c (.int .i64 0))), none, none, []⟩])
 (.ret))))⟩
/-- almadraba/almadrabaref01.Within -/
def f30 : AFn := ⟨15, [.tmp 6],
 .seq (.region 0 [⟨(some 6), .p (.move (.c (.bool false))), none, none, []⟩])
 (.seq (.region 0 [⟨(some 7), .p (.move (.t 1)), none, none, []⟩,
 ⟨(some 8), .p (.move (.t 0)), none, none, []⟩,
 ⟨(some 9), .p (.bin .leq (.t 7) (.t 8)), none, none, []⟩,
 ⟨(some 10), .p (.move (.t 9)), none, none, []⟩,
 ⟨(some 11), .p (.move (.t 0)), (some (10, true)), none, []⟩,
 ⟨(some 12), .p (.move (.t 2)), (some (10, true)), none, []⟩,
 ⟨(some 13), .p (.bin .leq (.t 11) (.t 12)), (some (10, true)), none, []⟩,
 ⟨(some 14), .p (.pick (.t 10) (.t 13) (.c (.bool false))), none, none, []⟩,
 ⟨(some 6), .p (.move (.t 14)), none, none, []⟩])
 (.ret))⟩
/-- almadraba/almadrabaref01.IsPlace -/
def f31 : AFn := ⟨15, [.tmp 4],
 .seq (.region 0 [⟨(some 2), .box (.t 0), none, none, []⟩,
 ⟨(some 3), .box (.t 1), none, none, []⟩,
 ⟨(some 4), .p (.move (.c (.bool false))), none, none, []⟩])
 (.seq (.region 0 [⟨(some 5), .load true 4 (.t 2), none, none, []⟩,
 ⟨(some 6), .p (.fieldAddr 0 (.t 3)), none, none, []⟩,
 ⟨(some 7), .load false 1 (.t 6), none, none, []⟩,
 ⟨(some 8), .call 1 45 [(.t 5), (.t 7)], none, none, []⟩,
 ⟨(some 9), .p (.move (.t 8)), none, none, []⟩,
 ⟨(some 10), .load true 4 (.t 2), (some (9, true)), none, []⟩,
 ⟨(some 11), .p (.fieldAddr 1 (.t 3)), (some (9, true)), none, []⟩,
 ⟨(some 12), .load false 1 (.t 11), (some (9, true)), none, []⟩,
 ⟨(some 13), .call 1 39 [(.t 10), (.t 12)], (some (9, true)), none, []⟩,
 ⟨(some 14), .p (.pick (.t 9) (.t 13) (.c (.bool false))), none, none, []⟩,
 ⟨(some 4), .p (.move (.t 14)), none, none, []⟩])
 (.ret))⟩
/-- almadraba/counts.Fish -/
def f32 : AFn := ⟨28, [.cell true 2 6, .tmp 7],
 .seq (.region 0 [⟨(some 3), .box (.t 0), none, none, []⟩,
 ⟨(some 6), .alloc [.int .i64 0, .int .i64 0], none, none, []⟩,
 ⟨(some 7), .p (.move (.c (.int .i64 0))), none, none, []⟩])
 (.seq (.region 0 [⟨(some 11), .load true 4 (.t 3), none, none, []⟩,
 ⟨(some 12), .load true 4 (.t 3), none, none, []⟩,
 ⟨(some 13), .p (.move (.t 1)), none, none, []⟩,
 ⟨(some 14), .p (.move (.t 2)), none, none, []⟩,
 ⟨(some 15), .call 1 81 [(.t 12), (.t 13), (.t 14)], none, none, []⟩,
 ⟨(some 16), .call 2 73 [(.t 11), (.t 15)], none, none, []⟩,
 ⟨(some 10), .p (.move (.t 16)), none, none, []⟩,
 ⟨(some 17), .p (.extract (.t 10) 0), none, none, []⟩,
 ⟨(some 18), .p (.extract (.t 10) 1), none, none, []⟩,
 ⟨(some 8), .p (.move (.t 17)), none, none, []⟩,
 ⟨(some 9), .p (.move (.t 18)), none, none, []⟩])
 (.seq (.seq (.region 0 [⟨(some 19), .p (.move (.t 9)), none, none, []⟩,
 ⟨(some 20), .p (.bin .neq (.t 19) (.c (.int .i64 0))), none, none, []⟩])
 (.cond (.t 20) (.seq (.region 0 [⟨(some 21), .p (.build [.int .i64 0, .int .i64 0] []), none, none, []⟩,
 ⟨(some 22), .p (.move (.t 9)), none, none, []⟩,
 ⟨none, .store 2 (.t 6) (.t 21), none, none, []⟩,
 ⟨(some 7), .p (.move (.t 22)), none, none, []⟩])
 (.ret))
 (.skip)))
 (.seq (.region 0 [⟨(some 23), .p (.move (.t 8)), none, none, []⟩,
 ⟨(some 24), .p (.move (.t 1)), none, none, []⟩,
 ⟨(some 25), .p (.move (.t 2)), none, none, []⟩,
 ⟨(some 26), .p (.build [.int .i64 0, .int .i64 0] [(0, 1, (.t 24)), (1, 1, (.t 25))]), none, none, []⟩,
 ⟨(some 27), .call 3 82 [(.t 23), (.t 26)], none, none, []⟩,
 ⟨none, .store 2 (.t 6) (.t 27), none, none, []⟩,
 ⟨(some 7), .p (.move (.c (.int .i64 0))), none, none, []⟩])
 (.ret))))⟩
/-- almadraba/counts.Truth -/
def f33 : AFn := ⟨16, [.tmp 2, .tmp 3],
 .seq (.region 0 [⟨(some 1), .box (.t 0), none, none, []⟩,
 ⟨(some 2), .p (.move (.c (.nils))), none, none, []⟩,
 ⟨(some 3), .p (.move (.c (.int .i64 0))), none, none, []⟩])
 (.seq (.region 0 [⟨(some 7), .load true 4 (.t 1), none, none, []⟩,
 ⟨(some 8), .call 2 73 [(.t 7), (.c (.bool true))], none, none, []⟩,
 ⟨(some 6), .p (.move (.t 8)), none, none, []⟩,
 ⟨(some 9), .p (.extract (.t 6) 0), none, none, []⟩,
 ⟨(some 10), .p (.extract (.t 6) 1), none, none, []⟩,
 ⟨(some 4), .p (.move (.t 9)), none, none, []⟩,
 ⟨(some 5), .p (.move (.t 10)), none, none, []⟩])
 (.seq (.seq (.region 0 [⟨(some 11), .p (.move (.t 5)), none, none, []⟩,
 ⟨(some 12), .p (.bin .neq (.t 11) (.c (.int .i64 0))), none, none, []⟩])
 (.cond (.t 12) (.seq (.region 0 [⟨(some 13), .p (.move (.t 5)), none, none, []⟩,
 ⟨(some 2), .p (.move (.c (.nils))), none, none, []⟩,
 ⟨(some 3), .p (.move (.t 13)), none, none, []⟩])
 (.ret))
 (.skip)))
 (.seq (.region 0 [⟨(some 14), .p (.move (.t 4)), none, none, []⟩,
 ⟨(some 15), .call 0 83 [(.t 14)], none, none, []⟩,
 ⟨(some 2), .p (.move (.t 15)), none, none, []⟩,
 ⟨(some 3), .p (.move (.c (.int .i64 0))), none, none, []⟩])
 (.ret))))⟩
/-- almadraba/almadrabaref01.Counted -/
def f34 : AFn := ⟨16, [.cell true 4 6],
 .seq (.region 0 [⟨(some 3), .box (.t 0), none, none, []⟩,
 ⟨(some 4), .box (.t 1), none, none, []⟩,
 ⟨(some 6), .alloc [.int .i64 0, .int .i64 0, .nils, .nils], none, none, []⟩])
 (.seq (.region 0 [⟨(some 7), .load true 4 (.t 3), none, none, []⟩,
 ⟨(some 8), .p (.fieldAddr 0 (.t 4)), none, none, []⟩,
 ⟨(some 9), .load false 1 (.t 8), none, none, []⟩,
 ⟨(some 10), .p (.fieldAddr 1 (.t 4)), none, none, []⟩,
 ⟨(some 11), .load false 1 (.t 10), none, none, []⟩,
 ⟨(some 12), .p (.move (.t 2)), none, none, []⟩,
 ⟨(some 13), .p (.move (.t 2)), none, none, []⟩,
 ⟨(some 14), .p (.build [.int .i64 0, .int .i64 0, .int .i64 0, .int .i64 0] [(0, 1, (.t 9)), (1, 1, (.t 11)), (2, 1, (.t 12)), (3, 1, (.t 13))]), none, none, []⟩,
 ⟨(some 15), .call 1 35 [(.t 7), (.t 14)], none, none, []⟩,
 ⟨none, .store 4 (.t 6) (.t 15), none, none, []⟩])
 (.ret))⟩
/-- almadraba/almadrabaref01.Told -/
def f35 : AFn := ⟨15, [.cell true 4 4],
 .seq (.region 0 [⟨(some 2), .box (.t 0), none, none, []⟩,
 ⟨(some 3), .box (.t 1), none, none, []⟩,
 ⟨(some 4), .alloc [.int .i64 0, .int .i64 0, .nils, .nils], none, none, []⟩])
 (.seq (.region 0 [⟨(some 6), .load true 4 (.t 2), none, none, []⟩,
 ⟨(some 7), .call 2 41 [(.t 6)], none, none, []⟩,
 ⟨(some 5), .alloc [.int .i64 0, .int .i64 0, .nils, .nils], none, none, []⟩,
 ⟨none, .store 4 (.t 5) (.t 7), none, none, []⟩])
 (.seq (.region 0 [⟨(some 8), .p (.fieldAddr 3 (.t 5)), none, none, []⟩,
 ⟨(some 9), .load false 1 (.t 8), none, none, []⟩,
 ⟨(some 10), .load true 4 (.t 3), none, none, []⟩,
 ⟨(some 11), .litS 4 1 [.int .i64 0, .int .i64 0, .int .i64 0, .int .i64 0] [(0, (.t 10))], none, none, []⟩,
 ⟨(some 12), .append false 4 32 (.t 9) (.t 11), none, none, []⟩,
 ⟨(some 13), .p (.fieldAddr 3 (.t 5)), none, none, []⟩,
 ⟨none, .store 1 (.t 13) (.t 12), none, none, []⟩])
 (.seq (.region 0 [⟨(some 14), .load true 4 (.t 5), none, none, []⟩,
 ⟨none, .store 4 (.t 4) (.t 14), none, none, []⟩])
 (.ret))))⟩
/-- almadraba/almadrabaref01.IsOne -/
def f36 : AFn := ⟨7, [.tmp 2],
 .seq (.region 0 [⟨(some 1), .box (.t 0), none, none, []⟩,
 ⟨(some 2), .p (.move (.c (.bool false))), none, none, []⟩])
 (.seq (.region 0 [⟨(some 3), .load true 4 (.t 1), none, none, []⟩,
 ⟨(some 4), .load true 4 (.t 1), none, none, []⟩,
 ⟨(some 5), .call 2 85 [(.t 4)], none, none, []⟩,
 ⟨(some 6), .call 0 84 [(.t 3), (.t 5)], none, none, []⟩,
 ⟨(some 2), .p (.move (.t 6)), none, none, []⟩])
 (.ret))⟩
/-- almadraba/almadrabaref01.IsChamber -/
def f39 : AFn := ⟨10, [.tmp 4],
 .seq (.region 0 [⟨(some 2), .box (.t 0), none, none, []⟩,
 ⟨(some 4), .p (.move (.c (.bool false))), none, none, []⟩])
 (.seq (.region 0 [⟨(some 5), .p (.move (.t 1)), none, none, []⟩,
 ⟨(some 6), .p (.fieldAddr 0 (.t 2)), none, none, []⟩,
 ⟨(some 7), .load false 1 (.t 6), none, none, []⟩,
 ⟨(some 8), .p (.bin .sub (.t 7) (.c (.int .i64 1))), none, none, []⟩,
 ⟨(some 9), .call 1 30 [(.t 5), (.c (.int .i64 0)), (.t 8)], none, none, []⟩,
 ⟨(some 4), .p (.move (.t 9)), none, none, []⟩])
 (.ret))⟩
/-- almadraba/almadrabaref01.In -/
def f40 : AFn := ⟨18, [.tmp 4],
 .seq (.region 0 [⟨(some 4), .p (.move (.c (.bool false))), none, none, []⟩])
 (.seq (.seq (.region 0 [⟨(some 5), .p (.move (.c (.int .i64 0))), none, none, []⟩])
 (.block 0 (.loop (.seq (.seq (.region 0 [⟨(some 6), .p (.move (.t 5)), none, none, []⟩,
 ⟨(some 7), .p (.move (.t 0)), none, none, []⟩,
 ⟨(some 8), .p (.lenS (.t 7)), none, none, []⟩,
 ⟨(some 9), .p (.bin .lss (.t 6) (.t 8)), none, none, []⟩])
 (.cond (.t 9) (.skip)
 (.exit 0)))
 (.seq (.block 1 (.seq (.region 0 [⟨(some 12), .p (.move (.t 0)), none, none, []⟩,
 ⟨(some 13), .p (.move (.t 5)), none, none, []⟩,
 ⟨(some 14), .p (.idxSl 1 (.t 12) (.t 13)), none, none, []⟩,
 ⟨(some 15), .load false 1 (.t 14), none, none, []⟩,
 ⟨(some 16), .p (.move (.t 1)), none, none, []⟩,
 ⟨(some 17), .p (.bin .eql (.t 15) (.t 16)), none, none, []⟩])
 (.cond (.t 17) (.seq (.region 0 [⟨(some 4), .p (.move (.c (.bool true))), none, none, []⟩])
 (.ret))
 (.skip))))
 (.region 0 [⟨(some 10), .p (.move (.t 5)), none, none, []⟩,
 ⟨(some 11), .p (.bin .add (.t 10) (.c (.int .i64 1))), none, none, []⟩,
 ⟨(some 5), .p (.move (.t 11)), none, none, []⟩]))))))
 (.seq (.region 0 [⟨(some 4), .p (.move (.c (.bool false))), none, none, []⟩])
 (.ret)))⟩
/-- almadraba/almadrabaref01.Copy -/
def f41 : AFn := ⟨34, [.cell true 4 2],
 .seq (.region 0 [⟨(some 1), .box (.t 0), none, none, []⟩,
 ⟨(some 2), .alloc [.int .i64 0, .int .i64 0, .nils, .nils], none, none, []⟩])
 (.seq (.region 3 [⟨(some 5), .p (.fieldAddr 0 (.t 1)), none, none, []⟩,
 ⟨(some 6), .load false 1 (.t 5), none, none, [0, 1, 2]⟩,
 ⟨(some 7), .p (.fieldAddr 1 (.t 1)), none, none, []⟩,
 ⟨(some 8), .load false 1 (.t 7), none, none, [0, 1, 2]⟩,
 ⟨(some 9), .buildSlice 4 0 [.int .i64 0, .int .i64 0, .int .i64 0, .int .i64 0] [], none, (some 0), []⟩,
 ⟨(some 10), .p (.fieldAddr 3 (.t 1)), none, none, []⟩,
 ⟨(some 11), .load false 1 (.t 10), none, none, [0, 1, 2]⟩,
 ⟨(some 12), .append true 4 32 (.t 9) (.t 11), none, (some 1), [2]⟩,
 ⟨(some 13), .p (.build [.int .i64 0, .int .i64 0, .nils, .nils] [(0, 1, (.t 6)), (1, 1, (.t 8)), (3, 1, (.t 12))]), none, none, []⟩,
 ⟨(some 3), .alloc [.int .i64 0, .int .i64 0, .nils, .nils], none, (some 2), []⟩,
 ⟨none, .store 4 (.t 3) (.t 13), none, (some 2), []⟩])
 (.seq (.seq (.region 0 [⟨(some 4), .p (.move (.c (.int .i64 0))), none, none, []⟩])
 (.block 0 (.loop (.seq (.seq (.region 0 [⟨(some 14), .p (.move (.t 4)), none, none, []⟩,
 ⟨(some 15), .p (.fieldAddr 2 (.t 1)), none, none, []⟩,
 ⟨(some 16), .load false 1 (.t 15), none, none, []⟩,
 ⟨(some 17), .p (.lenS (.t 16)), none, none, []⟩,
 ⟨(some 18), .p (.bin .lss (.t 14) (.t 17)), none, none, []⟩])
 (.cond (.t 18) (.skip)
 (.exit 0)))
 (.seq (.block 1 (.region 4 [⟨(some 21), .p (.fieldAddr 2 (.t 3)), none, none, []⟩,
 ⟨(some 22), .load false 1 (.t 21), none, none, [0, 1, 2, 3]⟩,
 ⟨(some 23), .buildSlice 1 0 [.int .i64 0] [], none, (some 0), []⟩,
 ⟨(some 24), .p (.fieldAddr 2 (.t 1)), none, none, []⟩,
 ⟨(some 25), .load false 1 (.t 24), none, none, [0, 1, 2, 3]⟩,
 ⟨(some 26), .p (.move (.t 4)), none, none, []⟩,
 ⟨(some 27), .p (.idxSl 1 (.t 25) (.t 26)), none, none, []⟩,
 ⟨(some 28), .load false 1 (.t 27), none, none, [0, 1, 2, 3]⟩,
 ⟨(some 29), .append true 1 8 (.t 23) (.t 28), none, (some 1), [2, 3]⟩,
 ⟨(some 30), .buildSlice 1 1 [.nils] [(0, (.t 29))], none, (some 2), []⟩,
 ⟨(some 31), .append false 1 24 (.t 22) (.t 30), none, (some 3), []⟩,
 ⟨(some 32), .p (.fieldAddr 2 (.t 3)), none, none, []⟩,
 ⟨none, .store 1 (.t 32) (.t 31), none, none, []⟩]))
 (.region 0 [⟨(some 19), .p (.move (.t 4)), none, none, []⟩,
 ⟨(some 20), .p (.bin .add (.t 19) (.c (.int .i64 1))), none, none, []⟩,
 ⟨(some 4), .p (.move (.t 20)), none, none, []⟩]))))))
 (.seq (.region 0 [⟨(some 33), .load true 4 (.t 3), none, none, []⟩,
 ⟨none, .store 4 (.t 2) (.t 33), none, none, []⟩])
 (.ret))))⟩
/-- almadraba/counts.Enough -/
def f44 : AFn := ⟨28, [.cell true 2 4, .tmp 5],
 .seq (.region 0 [⟨(some 2), .box (.t 0), none, none, []⟩,
 ⟨(some 4), .alloc [.int .i64 0, .int .i64 0], none, none, []⟩,
 ⟨(some 5), .p (.move (.c (.int .i64 0))), none, none, []⟩])
 (.seq (.region 0 [⟨(some 9), .load true 4 (.t 2), none, none, []⟩,
 ⟨(some 10), .p (.move (.t 1)), none, none, []⟩,
 ⟨(some 11), .p (.bin .leq (.c (.int .i64 1)) (.t 10)), none, none, []⟩,
 ⟨(some 12), .p (.move (.t 11)), none, none, []⟩,
 ⟨(some 13), .p (.move (.t 1)), (some (12, true)), none, []⟩,
 ⟨(some 14), .p (.bin .leq (.t 13) (.c (.int .i64 40))), (some (12, true)), none, []⟩,
 ⟨(some 15), .p (.pick (.t 12) (.t 14) (.c (.bool false))), none, none, []⟩,
 ⟨(some 16), .call 2 73 [(.t 9), (.t 15)], none, none, []⟩,
 ⟨(some 8), .p (.move (.t 16)), none, none, []⟩,
 ⟨(some 17), .p (.extract (.t 8) 0), none, none, []⟩,
 ⟨(some 18), .p (.extract (.t 8) 1), none, none, []⟩,
 ⟨(some 6), .p (.move (.t 17)), none, none, []⟩,
 ⟨(some 7), .p (.move (.t 18)), none, none, []⟩])
 (.seq (.seq (.region 0 [⟨(some 19), .p (.move (.t 7)), none, none, []⟩,
 ⟨(some 20), .p (.bin .neq (.t 19) (.c (.int .i64 0))), none, none, []⟩])
 (.cond (.t 20) (.seq (.region 0 [⟨(some 21), .p (.build [.int .i64 0, .int .i64 0] []), none, none, []⟩,
 ⟨(some 22), .p (.move (.t 7)), none, none, []⟩,
 ⟨none, .store 2 (.t 4) (.t 21), none, none, []⟩,
 ⟨(some 5), .p (.move (.t 22)), none, none, []⟩])
 (.ret))
 (.skip)))
 (.seq (.region 0 [⟨(some 23), .p (.move (.t 6)), none, none, []⟩,
 ⟨(some 24), .p (.move (.t 1)), none, none, []⟩,
 ⟨(some 25), .call 3 86 [(.t 23), (.t 24)], none, none, []⟩,
 ⟨(some 26), .p (.extract (.t 25) 0), none, none, []⟩,
 ⟨(some 27), .p (.extract (.t 25) 1), none, none, []⟩,
 ⟨none, .store 2 (.t 4) (.t 26), none, none, []⟩,
 ⟨(some 5), .p (.move (.t 27)), none, none, []⟩])
 (.ret))))⟩
/-- almadraba/almadrabaref01.IsTime -/
def f45 : AFn := ⟨10, [.tmp 4],
 .seq (.region 0 [⟨(some 2), .box (.t 0), none, none, []⟩,
 ⟨(some 4), .p (.move (.c (.bool false))), none, none, []⟩])
 (.seq (.region 0 [⟨(some 5), .p (.move (.t 1)), none, none, []⟩,
 ⟨(some 6), .p (.fieldAddr 1 (.t 2)), none, none, []⟩,
 ⟨(some 7), .load false 1 (.t 6), none, none, []⟩,
 ⟨(some 8), .p (.bin .sub (.t 7) (.c (.int .i64 1))), none, none, []⟩,
 ⟨(some 9), .call 1 30 [(.t 5), (.c (.int .i64 0)), (.t 8)], none, none, []⟩,
 ⟨(some 4), .p (.move (.t 9)), none, none, []⟩])
 (.ret))⟩
/-- almadraba/almadrabalaw01.Far -/
def f46 : AFn := ⟨20, [.tmp 2],
 .seq (.region 0 [⟨(some 1), .box (.t 0), none, none, []⟩,
 ⟨(some 2), .p (.move (.c (.bool false))), none, none, []⟩])
 (.seq (.region 0 [⟨(some 3), .load true 4 (.t 1), none, none, []⟩,
 ⟨(some 4), .call 1 53 [(.t 3)], none, none, []⟩,
 ⟨(some 5), .p (.move (.t 4)), none, none, []⟩,
 ⟨(some 6), .p (.fieldAddr 0 (.t 1)), (some (5, false)), none, []⟩,
 ⟨(some 7), .load false 1 (.t 6), (some (5, false)), none, []⟩,
 ⟨(some 8), .p (.bin .gtr (.t 7) (.c (.int .i64 3))), (some (5, false)), none, []⟩,
 ⟨(some 9), .p (.move (.t 8)), (some (5, false)), none, []⟩,
 ⟨(some 10), .p (.fieldAddr 1 (.t 1)), (some (9, false)), none, []⟩,
 ⟨(some 11), .load false 1 (.t 10), (some (9, false)), none, []⟩,
 ⟨(some 12), .p (.bin .gtr (.t 11) (.c (.int .i64 3))), (some (9, false)), none, []⟩,
 ⟨(some 13), .p (.pick (.t 9) (.c (.bool true)) (.t 12)), (some (5, false)), none, []⟩,
 ⟨(some 14), .p (.move (.t 13)), (some (5, false)), none, []⟩,
 ⟨(some 15), .load true 4 (.t 1), (some (14, true)), none, []⟩,
 ⟨(some 16), .call 1 55 [(.t 15)], (some (14, true)), none, []⟩,
 ⟨(some 17), .p (.bin .eql (.t 16) (.c (.int .i64 0))), (some (14, true)), none, []⟩,
 ⟨(some 18), .p (.pick (.t 14) (.t 17) (.c (.bool false))), (some (5, false)), none, []⟩,
 ⟨(some 19), .p (.pick (.t 5) (.c (.bool true)) (.t 18)), none, none, []⟩,
 ⟨(some 2), .p (.move (.t 19)), none, none, []⟩])
 (.ret))⟩
/-- almadraba/almadrabalaw01.doubt -/
def f47 : AFn := ⟨33, [.tmp 2],
 .seq (.region 0 [⟨(some 1), .box (.t 0), none, none, []⟩,
 ⟨(some 2), .p (.move (.c (.int .i64 0))), none, none, []⟩])
 (.seq (.region 0 [⟨(some 6), .load true 4 (.t 1), none, none, []⟩,
 ⟨(some 7), .p (.fieldAddr 1 (.t 1)), none, none, []⟩,
 ⟨(some 8), .load false 1 (.t 7), none, none, []⟩,
 ⟨(some 9), .p (.bin .sub (.t 8) (.c (.int .i64 1))), none, none, []⟩,
 ⟨(some 10), .p (.fieldAddr 0 (.t 1)), none, none, []⟩,
 ⟨(some 11), .load false 1 (.t 10), none, none, []⟩,
 ⟨(some 12), .p (.bin .sub (.t 11) (.c (.int .i64 1))), none, none, []⟩,
 ⟨(some 13), .call 1 32 [(.t 6), (.t 9), (.t 12)], none, none, []⟩,
 ⟨(some 5), .p (.move (.t 13)), none, none, []⟩,
 ⟨(some 14), .p (.extract (.t 5) 0), none, none, []⟩,
 ⟨(some 15), .p (.extract (.t 5) 1), none, none, []⟩,
 ⟨(some 3), .alloc [.int .i64 0, .int .i64 0], none, none, []⟩,
 ⟨none, .store 2 (.t 3) (.t 14), none, none, []⟩,
 ⟨(some 4), .p (.move (.t 15)), none, none, []⟩])
 (.seq (.seq (.region 0 [⟨(some 16), .p (.move (.t 4)), none, none, []⟩,
 ⟨(some 17), .p (.bin .neq (.t 16) (.c (.int .i64 0))), none, none, []⟩,
 ⟨(some 18), .p (.move (.t 17)), none, none, []⟩,
 ⟨(some 19), .p (.fieldAddr 0 (.t 3)), (some (18, false)), none, []⟩,
 ⟨(some 20), .load false 1 (.t 19), (some (18, false)), none, []⟩,
 ⟨(some 21), .p (.bin .lss (.t 20) (.c (.int .i64 0))), (some (18, false)), none, []⟩,
 ⟨(some 22), .p (.pick (.t 18) (.c (.bool true)) (.t 21)), none, none, []⟩,
 ⟨(some 23), .p (.move (.t 22)), none, none, []⟩,
 ⟨(some 24), .p (.fieldAddr 1 (.t 3)), (some (23, false)), none, []⟩,
 ⟨(some 25), .load false 1 (.t 24), (some (23, false)), none, []⟩,
 ⟨(some 26), .p (.bin .gtr (.t 25) (.c (.int .i64 40))), (some (23, false)), none, []⟩,
 ⟨(some 27), .p (.pick (.t 23) (.c (.bool true)) (.t 26)), none, none, []⟩])
 (.cond (.t 27) (.seq (.region 0 [⟨(some 2), .p (.move (.c (.int .i64 (-1)))), none, none, []⟩])
 (.ret))
 (.skip)))
 (.seq (.region 0 [⟨(some 28), .p (.fieldAddr 1 (.t 3)), none, none, []⟩,
 ⟨(some 29), .load false 1 (.t 28), none, none, []⟩,
 ⟨(some 30), .p (.fieldAddr 0 (.t 3)), none, none, []⟩,
 ⟨(some 31), .load false 1 (.t 30), none, none, []⟩,
 ⟨(some 32), .p (.bin .sub (.t 29) (.t 31)), none, none, []⟩,
 ⟨(some 2), .p (.move (.t 32)), none, none, []⟩])
 (.ret))))⟩
end Go.Proofs.Ytjaaefdhdggnkaa.T
