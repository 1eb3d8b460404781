/-
The code of functions of the seat, as the abstract machine has it (printed by a tool of ours off the dump).
-/
import Derived.Test.YtaffjmjahenoaaaAmX
namespace Go.Proofs.Ytaffjmjahenoaaa.T
open Go Go.Am
abbrev oP (n : Nat) (p : POp) : AOper := ⟨some n, .p p, none, none, []⟩
abbrev oQ (n : Nat) (p : AOp) : AOper := ⟨some n, p, none, none, []⟩
abbrev oG (n m : Nat) (b : Bool) (p : POp) : AOper := ⟨some n, .p p, some (m, b), none, []⟩
/-- gosem.cut.init -/
def f2 : AFn := ⟨1, [],
 .region 0 [oQ 0 (.call 1 1 [])]⟩
/-- almadraba/almadrabatop.TopSalted -/
def f3 : AFn := ⟨116, [.tmp 6],
 .seq (.region 0 [oQ 4 (.box (.t 1)),
 oP 6 (.move (.c (.bool false)))])
 (.seq (.seq (.region 0 [oP 12 (.move (.t 0)),
 oP 13 (.lenS (.t 12)),
 oP 14 (.bin .gtr (.t 13) (.c (.int .i64 40))),
 oP 15 (.move (.t 14)),
 oG 16 15 false (.move (.t 0)),
 ⟨(some 17), .call 1 4 [(.t 16)], (some (15, false)), none, []⟩,
 oG 18 15 false (.bin .neq (.t 17) (.c (.int .i64 0))),
 oP 19 (.pick (.t 15) (.c (.bool true)) (.t 18)),
 oP 20 (.move (.t 19)),
 oG 21 20 false (.move (.t 2)),
 oG 22 20 false (.lenS (.t 21)),
 oG 23 20 false (.bin .gtr (.t 22) (.c (.int .i64 40))),
 oP 24 (.pick (.t 20) (.c (.bool true)) (.t 23)),
 oP 25 (.move (.t 24)),
 oG 26 25 false (.move (.t 0)),
 oG 27 25 false (.move (.t 2)),
 ⟨(some 28), .call 1 5 [(.t 26), (.t 27)], (some (25, false)), none, []⟩,
 oG 29 25 false (.un .not (.t 28)),
 oP 30 (.pick (.t 25) (.c (.bool true)) (.t 29)),
 oP 31 (.move (.t 30)),
 ⟨(some 32), .load true 4 (.t 4), (some (31, false)), none, []⟩,
 ⟨(some 33), .call 1 6 [(.t 32)], (some (31, false)), none, []⟩,
 oP 34 (.pick (.t 31) (.c (.bool true)) (.t 33)),
 oP 35 (.move (.t 34)),
 ⟨(some 36), .load true 4 (.t 4), (some (35, false)), none, []⟩,
 ⟨(some 37), .call 1 7 [(.t 36)], (some (35, false)), none, []⟩,
 oG 38 35 false (.bin .neq (.t 37) (.c (.int .i64 0))),
 oP 39 (.pick (.t 35) (.c (.bool true)) (.t 38)),
 oP 40 (.move (.t 39)),
 ⟨(some 41), .load true 4 (.t 4), (some (40, false)), none, []⟩,
 ⟨(some 42), .call 1 8 [(.t 41)], (some (40, false)), none, []⟩,
 oP 43 (.pick (.t 40) (.c (.bool true)) (.t 42))])
 (.cond (.t 43) (.seq (.region 0 [oQ 44 (.call 1 9 []),
 oP 6 (.move (.t 44))])
 (.ret))
 (.skip)))
 (.seq (.region 0 [oP 7 (.move (.c (.nils))),
 oP 8 (.move (.c (.nils)))])
 (.seq (.seq (.region 0 [oP 9 (.move (.c (.int .i64 0)))])
 (.block 0 (.loop (.seq (.seq (.region 0 [oP 45 (.move (.t 9)),
 oP 46 (.move (.t 0)),
 oP 47 (.lenS (.t 46)),
 oP 48 (.bin .lss (.t 45) (.t 47))])
 (.cond (.t 48) (.skip)
 (.exit 0)))
 (.seq (.block 1 (.seq (.region 0 [oP 52 (.move (.t 0)),
 oP 53 (.move (.t 9)),
 oQ 54 (.call 1 10 [(.t 52), (.t 53)]),
 oP 51 (.move (.t 54)),
 oP 55 (.extract (.t 51) 0),
 oP 56 (.extract (.t 51) 1),
 oQ 10 (.alloc [.int .i64 0, .int .i64 0]),
 ⟨none, .store 2 (.t 10) (.t 55), none, none, []⟩,
 oP 11 (.move (.t 56))])
 (.seq (.seq (.region 0 [oP 57 (.move (.t 11)),
 oP 58 (.bin .neq (.t 57) (.c (.int .i64 0))),
 oP 59 (.move (.t 58)),
 oG 60 59 false (.fieldAddr 0 (.t 10)),
 ⟨(some 61), .load false 1 (.t 60), (some (59, false)), none, []⟩,
 oG 62 59 false (.bin .lss (.t 61) (.c (.int .i64 0))),
 oP 63 (.pick (.t 59) (.c (.bool true)) (.t 62)),
 oP 64 (.move (.t 63)),
 oG 65 64 false (.fieldAddr 1 (.t 10)),
 ⟨(some 66), .load false 1 (.t 65), (some (64, false)), none, []⟩,
 oG 67 64 false (.bin .gtr (.t 66) (.c (.int .i64 30))),
 oP 68 (.pick (.t 64) (.c (.bool true)) (.t 67)),
 oP 69 (.move (.t 68)),
 oG 70 69 false (.move (.t 2)),
 oG 71 69 false (.move (.t 9)),
 oG 72 69 false (.idxSl 1 (.t 70) (.t 71)),
 ⟨(some 73), .load false 1 (.t 72), (some (69, false)), none, []⟩,
 oG 74 69 false (.fieldAddr 0 (.t 10)),
 ⟨(some 75), .load false 1 (.t 74), (some (69, false)), none, []⟩,
 oG 76 69 false (.bin .lss (.t 73) (.t 75)),
 oP 77 (.pick (.t 69) (.c (.bool true)) (.t 76)),
 oP 78 (.move (.t 77)),
 oG 79 78 false (.move (.t 2)),
 oG 80 78 false (.move (.t 9)),
 oG 81 78 false (.idxSl 1 (.t 79) (.t 80)),
 ⟨(some 82), .load false 1 (.t 81), (some (78, false)), none, []⟩,
 oG 83 78 false (.fieldAddr 1 (.t 10)),
 ⟨(some 84), .load false 1 (.t 83), (some (78, false)), none, []⟩,
 oG 85 78 false (.bin .gtr (.t 82) (.t 84)),
 oP 86 (.pick (.t 78) (.c (.bool true)) (.t 85))])
 (.cond (.t 86) (.seq (.region 0 [oP 6 (.move (.c (.bool false)))])
 (.ret))
 (.skip)))
 (.region 2 [oP 87 (.move (.t 7)),
 oP 88 (.fieldAddr 0 (.t 10)),
 ⟨(some 89), .load false 1 (.t 88), none, none, [0, 1]⟩,
 oQ 90 (.litS 1 1 [.int .i64 0] [(0, (.t 89))]),
 ⟨(some 91), .append true 1 8 (.t 87) (.t 90), none, (some 0), [1]⟩,
 oP 92 (.move (.t 8)),
 oP 93 (.fieldAddr 1 (.t 10)),
 ⟨(some 94), .load false 1 (.t 93), none, none, [0, 1]⟩,
 oQ 95 (.litS 1 1 [.int .i64 0] [(0, (.t 94))]),
 ⟨(some 96), .append false 1 8 (.t 92) (.t 95), none, (some 1), []⟩,
 oP 7 (.move (.t 91)),
 oP 8 (.move (.t 96))]))))
 (.region 0 [oP 49 (.move (.t 9)),
 oP 50 (.bin .add (.t 49) (.c (.int .i64 1))),
 oP 9 (.move (.t 50))]))))))
 (.seq (.region 0 [oQ 97 (.load true 4 (.t 4)),
 oP 98 (.move (.t 7)),
 oQ 99 (.call 1 12 [(.t 97), (.t 98)]),
 oQ 100 (.load true 4 (.t 4)),
 oP 101 (.move (.t 2)),
 oQ 102 (.call 1 12 [(.t 100), (.t 101)]),
 oQ 103 (.call 1 11 [(.t 99), (.t 102)]),
 oP 104 (.move (.t 103)),
 ⟨(some 105), .load true 4 (.t 4), (some (104, true)), none, []⟩,
 oG 106 104 true (.move (.t 2)),
 ⟨(some 107), .call 1 12 [(.t 105), (.t 106)], (some (104, true)), none, []⟩,
 ⟨(some 108), .load true 4 (.t 4), (some (104, true)), none, []⟩,
 oG 109 104 true (.move (.t 8)),
 ⟨(some 110), .call 1 12 [(.t 108), (.t 109)], (some (104, true)), none, []⟩,
 ⟨(some 111), .call 1 11 [(.t 107), (.t 110)], (some (104, true)), none, []⟩,
 oP 112 (.pick (.t 104) (.t 111) (.c (.bool false))),
 oP 113 (.move (.t 112)),
 ⟨(some 114), .call 1 9 [], (some (113, true)), none, []⟩,
 oP 115 (.pick (.t 113) (.t 114) (.c (.bool false))),
 oP 6 (.move (.t 115))])
 (.ret)))))⟩
/-- almadraba/almadrabaref07.Check -/
def f4 : AFn := ⟨42, [.tmp 2],
 .seq (.region 0 [oP 2 (.move (.c (.int .i64 0)))])
 (.seq (.seq (.region 0 [oP 5 (.move (.t 0)),
 oP 6 (.lenS (.t 5)),
 oP 7 (.bin .gtr (.t 6) (.c (.int .i64 8)))])
 (.cond (.t 7) (.seq (.region 0 [oP 2 (.move (.c (.int .i64 70)))])
 (.ret))
 (.skip)))
 (.seq (.seq (.region 0 [oP 3 (.move (.c (.int .i64 0)))])
 (.block 0 (.loop (.seq (.seq (.region 0 [oP 8 (.move (.t 3)),
 oP 9 (.move (.t 0)),
 oP 10 (.lenS (.t 9)),
 oP 11 (.bin .lss (.t 8) (.t 10))])
 (.cond (.t 11) (.skip)
 (.exit 0)))
 (.seq (.block 1 (.seq (.region 0 [oP 14 (.move (.t 0)),
 oP 15 (.move (.t 3)),
 oP 16 (.idxSl 6 (.t 14) (.t 15)),
 oQ 17 (.load true 6 (.t 16)),
 oQ 4 (.alloc [.int .i64 0, .int .i64 0, .int .i64 0, .int .i64 0, .int .i64 0, .int .i64 0]),
 ⟨none, .store 6 (.t 4) (.t 17), none, none, []⟩])
 (.seq (.region 0 [oP 18 (.fieldAddr 0 (.t 4)),
 oQ 19 (.load false 1 (.t 18)),
 oP 20 (.move (.t 3)),
 oP 21 (.bin .sub (.t 20) (.c (.int .i64 1))),
 oQ 22 (.call 1 13 [(.t 19), (.c (.int .i64 (-1))), (.t 21)]),
 oP 23 (.un .not (.t 22)),
 oP 24 (.move (.t 23)),
 oG 25 24 false (.fieldAddr 1 (.t 4)),
 ⟨(some 26), .load true 2 (.t 25), (some (24, false)), none, []⟩,
 ⟨(some 27), .call 1 14 [(.t 26)], (some (24, false)), none, []⟩,
 oG 28 24 false (.un .not (.t 27)),
 oP 29 (.pick (.t 24) (.c (.bool true)) (.t 28)),
 oP 30 (.move (.t 29)),
 oG 31 30 false (.fieldAddr 3 (.t 4)),
 ⟨(some 32), .load true 2 (.t 31), (some (30, false)), none, []⟩,
 ⟨(some 33), .call 1 14 [(.t 32)], (some (30, false)), none, []⟩,
 oG 34 30 false (.un .not (.t 33)),
 oP 35 (.pick (.t 30) (.c (.bool true)) (.t 34)),
 oP 36 (.move (.t 35)),
 oG 37 36 false (.fieldAddr 5 (.t 4)),
 ⟨(some 38), .load false 1 (.t 37), (some (36, false)), none, []⟩,
 ⟨(some 39), .call 1 13 [(.t 38), (.c (.int .i64 0)), (.c (.int .i64 99))], (some (36, false)), none, []⟩,
 oG 40 36 false (.un .not (.t 39)),
 oP 41 (.pick (.t 36) (.c (.bool true)) (.t 40))])
 (.cond (.t 41) (.seq (.region 0 [oP 2 (.move (.c (.int .i64 70)))])
 (.ret))
 (.skip)))))
 (.region 0 [oP 12 (.move (.t 3)),
 oP 13 (.bin .add (.t 12) (.c (.int .i64 1))),
 oP 3 (.move (.t 13))]))))))
 (.seq (.region 0 [oP 2 (.move (.c (.int .i64 0)))])
 (.ret))))⟩
/-- almadraba/almadrabaref07.IsTruth -/
def f5 : AFn := ⟨14, [.tmp 4],
 .seq (.region 0 [oP 4 (.move (.c (.bool false)))])
 (.seq (.region 0 [oP 5 (.move (.t 0)),
 oP 6 (.move (.t 1)),
 oQ 7 (.call 1 15 [(.t 5), (.t 6)]),
 oP 8 (.move (.t 7)),
 oG 9 8 true (.move (.t 0)),
 oG 10 8 true (.move (.t 1)),
 ⟨(some 11), .call 1 16 [(.t 9), (.t 10)], (some (8, true)), none, []⟩,
 oG 12 8 true (.bin .eql (.t 11) (.c (.int .i64 0))),
 oP 13 (.pick (.t 8) (.t 12) (.c (.bool false))),
 oP 4 (.move (.t 13))])
 (.ret))⟩
/-- almadraba/almadrabalaw08.Huge -/
def f6 : AFn := ⟨19, [.tmp 2],
 .seq (.region 0 [oQ 1 (.box (.t 0)),
 oP 2 (.move (.c (.bool false)))])
 (.seq (.region 0 [oP 3 (.fieldAddr 0 (.t 1)),
 oQ 4 (.load false 1 (.t 3)),
 oP 5 (.lenS (.t 4)),
 oP 6 (.bin .gtr (.t 5) (.c (.int .i64 40))),
 oP 7 (.move (.t 6)),
 oG 8 7 false (.fieldAddr 2 (.t 1)),
 ⟨(some 9), .load false 1 (.t 8), (some (7, false)), none, []⟩,
 oG 10 7 false (.lenS (.t 9)),
 oG 11 7 false (.bin .gtr (.t 10) (.c (.int .i64 40))),
 oP 12 (.pick (.t 7) (.c (.bool true)) (.t 11)),
 oP 13 (.move (.t 12)),
 oG 14 13 false (.fieldAddr 3 (.t 1)),
 ⟨(some 15), .load false 1 (.t 14), (some (13, false)), none, []⟩,
 oG 16 13 false (.lenS (.t 15)),
 oG 17 13 false (.bin .gtr (.t 16) (.c (.int .i64 40))),
 oP 18 (.pick (.t 13) (.c (.bool true)) (.t 17)),
 oP 2 (.move (.t 18))])
 (.ret))⟩
/-- almadraba/almadrabaref08.Check -/
def f7 : AFn := ⟨96, [.tmp 2],
 .seq (.region 0 [oQ 1 (.box (.t 0)),
 oP 2 (.move (.c (.int .i64 0)))])
 (.seq (.seq (.region 0 [oP 6 (.fieldAddr 0 (.t 1)),
 oQ 7 (.load false 1 (.t 6)),
 oP 8 (.lenS (.t 7)),
 oP 9 (.bin .gtr (.t 8) (.c (.int .i64 3))),
 oP 10 (.move (.t 9)),
 oG 11 10 false (.fieldAddr 1 (.t 1)),
 ⟨(some 12), .load false 1 (.t 11), (some (10, false)), none, []⟩,
 ⟨(some 13), .call 1 17 [(.t 12), (.c (.int .i64 0)), (.c (.int .i64 9))], (some (10, false)), none, []⟩,
 oG 14 10 false (.un .not (.t 13)),
 oP 15 (.pick (.t 10) (.c (.bool true)) (.t 14)),
 oP 16 (.move (.t 15)),
 oG 17 16 false (.fieldAddr 2 (.t 1)),
 ⟨(some 18), .load false 1 (.t 17), (some (16, false)), none, []⟩,
 oG 19 16 false (.lenS (.t 18)),
 oG 20 16 false (.bin .gtr (.t 19) (.c (.int .i64 6))),
 oP 21 (.pick (.t 16) (.c (.bool true)) (.t 20)),
 oP 22 (.move (.t 21)),
 oG 23 22 false (.fieldAddr 3 (.t 1)),
 ⟨(some 24), .load false 1 (.t 23), (some (22, false)), none, []⟩,
 oG 25 22 false (.lenS (.t 24)),
 oG 26 22 false (.bin .gtr (.t 25) (.c (.int .i64 4))),
 oP 27 (.pick (.t 22) (.c (.bool true)) (.t 26))])
 (.cond (.t 27) (.seq (.region 0 [oP 2 (.move (.c (.int .i64 80)))])
 (.ret))
 (.skip)))
 (.seq (.seq (.region 0 [oP 3 (.move (.c (.int .i64 0)))])
 (.block 0 (.loop (.seq (.seq (.region 0 [oP 28 (.move (.t 3)),
 oP 29 (.fieldAddr 0 (.t 1)),
 oQ 30 (.load false 1 (.t 29)),
 oP 31 (.lenS (.t 30)),
 oP 32 (.bin .lss (.t 28) (.t 31))])
 (.cond (.t 32) (.skip)
 (.exit 0)))
 (.seq (.block 1 (.seq (.region 0 [oP 35 (.fieldAddr 0 (.t 1)),
 oQ 36 (.load false 1 (.t 35)),
 oP 37 (.move (.t 3)),
 oP 38 (.idxSl 2 (.t 36) (.t 37)),
 oP 39 (.fieldAddr 0 (.t 38)),
 oQ 40 (.load false 1 (.t 39)),
 oQ 41 (.call 1 17 [(.t 40), (.c (.int .i64 0)), (.c (.int .i64 9))]),
 oP 42 (.un .not (.t 41)),
 oP 43 (.move (.t 42)),
 oG 44 43 false (.fieldAddr 0 (.t 1)),
 ⟨(some 45), .load false 1 (.t 44), (some (43, false)), none, []⟩,
 oG 46 43 false (.move (.t 3)),
 oG 47 43 false (.idxSl 2 (.t 45) (.t 46)),
 oG 48 43 false (.fieldAddr 1 (.t 47)),
 ⟨(some 49), .load false 1 (.t 48), (some (43, false)), none, []⟩,
 ⟨(some 50), .call 1 17 [(.t 49), (.c (.int .i64 0)), (.c (.int .i64 20))], (some (43, false)), none, []⟩,
 oG 51 43 false (.un .not (.t 50)),
 oP 52 (.pick (.t 43) (.c (.bool true)) (.t 51))])
 (.cond (.t 52) (.seq (.region 0 [oP 2 (.move (.c (.int .i64 80)))])
 (.ret))
 (.skip))))
 (.region 0 [oP 33 (.move (.t 3)),
 oP 34 (.bin .add (.t 33) (.c (.int .i64 1))),
 oP 3 (.move (.t 34))]))))))
 (.seq (.seq (.region 0 [oP 4 (.move (.c (.int .i64 0)))])
 (.block 2 (.loop (.seq (.seq (.region 0 [oP 53 (.move (.t 4)),
 oP 54 (.fieldAddr 2 (.t 1)),
 oQ 55 (.load false 1 (.t 54)),
 oP 56 (.lenS (.t 55)),
 oP 57 (.bin .lss (.t 53) (.t 56))])
 (.cond (.t 57) (.skip)
 (.exit 2)))
 (.seq (.block 3 (.seq (.region 0 [oP 60 (.fieldAddr 2 (.t 1)),
 oQ 61 (.load false 1 (.t 60)),
 oP 62 (.move (.t 4)),
 oP 63 (.idxSl 2 (.t 61) (.t 62)),
 oP 64 (.fieldAddr 0 (.t 63)),
 oQ 65 (.load false 1 (.t 64)),
 oP 66 (.fieldAddr 0 (.t 1)),
 oQ 67 (.load false 1 (.t 66)),
 oP 68 (.lenS (.t 67)),
 oP 69 (.bin .sub (.t 68) (.c (.int .i64 1))),
 oQ 70 (.call 1 17 [(.t 65), (.c (.int .i64 0)), (.t 69)]),
 oP 71 (.un .not (.t 70)),
 oP 72 (.move (.t 71)),
 oG 73 72 false (.fieldAddr 2 (.t 1)),
 ⟨(some 74), .load false 1 (.t 73), (some (72, false)), none, []⟩,
 oG 75 72 false (.move (.t 4)),
 oG 76 72 false (.idxSl 2 (.t 74) (.t 75)),
 oG 77 72 false (.fieldAddr 1 (.t 76)),
 ⟨(some 78), .load false 1 (.t 77), (some (72, false)), none, []⟩,
 ⟨(some 79), .call 1 17 [(.t 78), (.c (.int .i64 0)), (.c (.int .i64 40))], (some (72, false)), none, []⟩,
 oG 80 72 false (.un .not (.t 79)),
 oP 81 (.pick (.t 72) (.c (.bool true)) (.t 80))])
 (.cond (.t 81) (.seq (.region 0 [oP 2 (.move (.c (.int .i64 80)))])
 (.ret))
 (.skip))))
 (.region 0 [oP 58 (.move (.t 4)),
 oP 59 (.bin .add (.t 58) (.c (.int .i64 1))),
 oP 4 (.move (.t 59))]))))))
 (.seq (.seq (.region 0 [oP 5 (.move (.c (.int .i64 0)))])
 (.block 4 (.loop (.seq (.seq (.region 0 [oP 82 (.move (.t 5)),
 oP 83 (.fieldAddr 3 (.t 1)),
 oQ 84 (.load false 1 (.t 83)),
 oP 85 (.lenS (.t 84)),
 oP 86 (.bin .lss (.t 82) (.t 85))])
 (.cond (.t 86) (.skip)
 (.exit 4)))
 (.seq (.block 5 (.seq (.region 0 [oP 89 (.fieldAddr 3 (.t 1)),
 oQ 90 (.load false 1 (.t 89)),
 oP 91 (.move (.t 5)),
 oP 92 (.idxSl 1 (.t 90) (.t 91)),
 oQ 93 (.load false 1 (.t 92)),
 oQ 94 (.call 1 17 [(.t 93), (.c (.int .i64 0)), (.c (.int .i64 99))]),
 oP 95 (.un .not (.t 94))])
 (.cond (.t 95) (.seq (.region 0 [oP 2 (.move (.c (.int .i64 80)))])
 (.ret))
 (.skip))))
 (.region 0 [oP 87 (.move (.t 5)),
 oP 88 (.bin .add (.t 87) (.c (.int .i64 1))),
 oP 5 (.move (.t 88))]))))))
 (.seq (.region 0 [oP 2 (.move (.c (.int .i64 0)))])
 (.ret))))))⟩
/-- almadraba/almadrabalaw08.Far -/
def f8 : AFn := ⟨25, [.tmp 2],
 .seq (.region 0 [oQ 1 (.box (.t 0)),
 oP 2 (.move (.c (.bool false)))])
 (.seq (.seq (.region 0 [oQ 5 (.load true 4 (.t 1)),
 oQ 6 (.call 1 6 [(.t 5)])])
 (.cond (.t 6) (.seq (.region 0 [oP 2 (.move (.c (.bool true)))])
 (.ret))
 (.skip)))
 (.seq (.seq (.region 0 [oQ 7 (.load true 4 (.t 1)),
 oQ 8 (.call 1 7 [(.t 7)]),
 oP 9 (.bin .neq (.t 8) (.c (.int .i64 0)))])
 (.cond (.t 9) (.seq (.region 0 [oP 2 (.move (.c (.bool false)))])
 (.ret))
 (.skip)))
 (.seq (.region 0 [oP 3 (.move (.c (.int .i64 1)))])
 (.seq (.seq (.region 0 [oP 4 (.move (.c (.int .i64 0)))])
 (.block 0 (.loop (.seq (.seq (.region 0 [oP 10 (.move (.t 4)),
 oP 11 (.fieldAddr 2 (.t 1)),
 oQ 12 (.load false 1 (.t 11)),
 oP 13 (.lenS (.t 12)),
 oP 14 (.bin .lss (.t 10) (.t 13))])
 (.cond (.t 14) (.skip)
 (.exit 0)))
 (.seq (.block 1 (.region 0 [oP 17 (.move (.t 3)),
 oP 18 (.fieldAddr 3 (.t 1)),
 oQ 19 (.load false 1 (.t 18)),
 oP 20 (.lenS (.t 19)),
 oP 21 (.bin .add (.t 20) (.c (.int .i64 1))),
 oP 22 (.bin .mul (.t 17) (.t 21)),
 oP 3 (.move (.t 22))]))
 (.region 0 [oP 15 (.move (.t 4)),
 oP 16 (.bin .add (.t 15) (.c (.int .i64 1))),
 oP 4 (.move (.t 16))]))))))
 (.seq (.region 0 [oP 23 (.move (.t 3)),
 oP 24 (.bin .gtr (.t 23) (.c (.int .i64 700))),
 oP 2 (.move (.t 24))])
 (.ret))))))⟩
/-- almadraba/almadrabatop.salted -/
def f9 : AFn := ⟨43, [.tmp 0],
 .seq (.region 0 [oP 0 (.move (.c (.bool false)))])
 (.seq (.region 0 [oQ 10 (.call 1 18 []),
 oP 9 (.move (.t 10)),
 oP 11 (.extract (.t 9) 0),
 oP 12 (.extract (.t 9) 1),
 oP 1 (.move (.t 11)),
 oP 2 (.move (.t 12))])
 (.seq (.region 0 [oQ 14 (.call 1 19 []),
 oP 13 (.move (.t 14)),
 oP 15 (.extract (.t 13) 0),
 oP 16 (.extract (.t 13) 1),
 oQ 3 (.alloc [.nils, .int .i64 0, .nils, .nils]),
 oQ 4 (.alloc [.nils, .int .i64 0, .nils, .nils]),
 ⟨none, .store 4 (.t 3) (.t 15), none, none, []⟩,
 ⟨none, .store 4 (.t 4) (.t 16), none, none, []⟩])
 (.seq (.region 0 [oP 18 (.move (.t 1)),
 oQ 19 (.call 1 10 [(.t 18), (.c (.int .i64 4))]),
 oP 17 (.move (.t 19)),
 oP 20 (.extract (.t 17) 0),
 oP 21 (.extract (.t 17) 1),
 oQ 5 (.alloc [.int .i64 0, .int .i64 0]),
 ⟨none, .store 2 (.t 5) (.t 20), none, none, []⟩,
 oP 6 (.move (.t 21))])
 (.seq (.region 0 [oQ 23 (.load true 4 (.t 3)),
 oQ 24 (.call 1 20 [(.t 23)]),
 oP 22 (.move (.t 24)),
 oP 25 (.extract (.t 22) 0),
 oP 26 (.extract (.t 22) 1),
 oP 7 (.move (.t 25)),
 oP 8 (.move (.t 26))])
 (.seq (.region 0 [oP 27 (.move (.t 6)),
 oP 28 (.bin .eql (.t 27) (.c (.int .i64 0))),
 oP 29 (.move (.t 28)),
 oG 30 29 true (.move (.t 8)),
 oG 31 29 true (.bin .eql (.t 30) (.c (.int .i64 0))),
 oP 32 (.pick (.t 29) (.t 31) (.c (.bool false))),
 oP 33 (.move (.t 32)),
 ⟨(some 34), .load true 2 (.t 5), (some (33, true)), none, []⟩,
 oG 35 33 true (.build [.int .i64 0, .int .i64 0] [(0, 1, (.c (.int .i64 0))), (1, 1, (.c (.int .i64 6)))]),
 oG 36 33 true (.eqS false [true, true] (.t 34) (.t 35)),
 oP 37 (.pick (.t 33) (.t 36) (.c (.bool false))),
 oP 38 (.move (.t 37)),
 oG 39 38 true (.move (.t 7)),
 ⟨(some 40), .litS 1 3 [.int .i64 0] [(0, (.c (.int .i64 0))), (1, (.c (.int .i64 0))), (2, (.c (.int .i64 1)))], (some (38, true)), none, []⟩,
 ⟨(some 41), .call 1 21 [(.t 39), (.t 40)], (some (38, true)), none, []⟩,
 oP 42 (.pick (.t 38) (.t 41) (.c (.bool false))),
 oP 0 (.move (.t 42))])
 (.ret))))))⟩
/-- almadraba/cuts.Weight -/
def f10 : AFn := ⟨20, [.cell true 2 4, .tmp 5],
 .seq (.region 0 [oQ 4 (.alloc [.int .i64 0, .int .i64 0]),
 oP 5 (.move (.c (.int .i64 0)))])
 (.seq (.seq (.region 0 [oP 7 (.move (.t 0)),
 oP 8 (.move (.t 1)),
 oQ 9 (.call 1 22 [(.t 7), (.t 8)]),
 oP 6 (.move (.t 9))])
 (.seq (.region 0 [oP 10 (.move (.t 6)),
 oP 11 (.bin .neq (.t 10) (.c (.int .i64 0)))])
 (.cond (.t 11) (.seq (.region 0 [oP 12 (.build [.int .i64 0, .int .i64 0] []),
 oP 13 (.move (.t 6)),
 ⟨none, .store 2 (.t 4) (.t 12), none, none, []⟩,
 oP 5 (.move (.t 13))])
 (.ret))
 (.skip))))
 (.seq (.region 0 [oP 14 (.move (.t 0)),
 oP 15 (.move (.t 1)),
 oQ 16 (.call 1 24 [(.t 15)]),
 oQ 17 (.call 1 23 [(.t 14), (.t 16)]),
 oP 18 (.extract (.t 17) 0),
 oP 19 (.extract (.t 17) 1),
 ⟨none, .store 2 (.t 4) (.t 18), none, none, []⟩,
 oP 5 (.move (.t 19))])
 (.ret)))⟩
/-- almadraba/almadrabatop.lighter -/
def f11 : AFn := ⟨106, [.tmp 4],
 .seq (.region 0 [oQ 2 (.box (.t 0)),
 oQ 3 (.box (.t 1)),
 oP 4 (.move (.c (.bool false)))])
 (.seq (.region 0 [oQ 18 (.load true 4 (.t 2)),
 oQ 19 (.call 1 25 [(.t 18)]),
 oP 17 (.move (.t 19)),
 oP 20 (.extract (.t 17) 0),
 oP 21 (.extract (.t 17) 1),
 oP 5 (.move (.t 20)),
 oP 6 (.move (.t 21))])
 (.seq (.region 0 [oQ 23 (.load true 4 (.t 3)),
 oQ 24 (.call 1 25 [(.t 23)]),
 oP 22 (.move (.t 24)),
 oP 25 (.extract (.t 22) 0),
 oP 26 (.extract (.t 22) 1),
 oP 7 (.move (.t 25)),
 oP 8 (.move (.t 26))])
 (.seq (.region 0 [oQ 28 (.load true 4 (.t 2)),
 oQ 29 (.call 1 26 [(.t 28)]),
 oP 27 (.move (.t 29)),
 oP 30 (.extract (.t 27) 0),
 oP 31 (.extract (.t 27) 1),
 oP 9 (.move (.t 30)),
 oP 10 (.move (.t 31))])
 (.seq (.region 0 [oQ 33 (.load true 4 (.t 3)),
 oQ 34 (.call 1 26 [(.t 33)]),
 oP 32 (.move (.t 34)),
 oP 35 (.extract (.t 32) 0),
 oP 36 (.extract (.t 32) 1),
 oP 11 (.move (.t 35)),
 oP 12 (.move (.t 36))])
 (.seq (.region 0 [oQ 38 (.load true 4 (.t 2)),
 oQ 39 (.call 1 27 [(.t 38)]),
 oP 37 (.move (.t 39)),
 oP 40 (.extract (.t 37) 0),
 oP 41 (.extract (.t 37) 1),
 oP 13 (.move (.t 40)),
 oP 14 (.move (.t 41))])
 (.seq (.region 0 [oQ 43 (.load true 4 (.t 3)),
 oQ 44 (.call 1 27 [(.t 43)]),
 oP 42 (.move (.t 44)),
 oP 45 (.extract (.t 42) 0),
 oP 46 (.extract (.t 42) 1),
 oP 15 (.move (.t 45)),
 oP 16 (.move (.t 46))])
 (.seq (.region 0 [oP 47 (.move (.t 8)),
 oP 48 (.bin .neq (.t 47) (.c (.int .i64 0))),
 oP 49 (.move (.t 48)),
 oG 50 49 false (.move (.t 6)),
 oG 51 49 false (.bin .eql (.t 50) (.c (.int .i64 0))),
 oG 52 49 false (.move (.t 51)),
 oG 53 52 true (.move (.t 5)),
 oG 54 52 true (.move (.t 7)),
 oG 55 52 true (.bin .leq (.t 53) (.t 54)),
 oG 56 49 false (.pick (.t 52) (.t 55) (.c (.bool false))),
 oG 57 49 false (.move (.t 56)),
 oG 58 57 true (.move (.t 5)),
 oG 59 57 true (.bin .geq (.t 58) (.c (.int .i64 0))),
 oG 60 49 false (.pick (.t 57) (.t 59) (.c (.bool false))),
 oP 61 (.pick (.t 49) (.c (.bool true)) (.t 60)),
 oP 62 (.move (.t 61)),
 oG 63 62 true (.move (.t 12)),
 oG 64 62 true (.bin .neq (.t 63) (.c (.int .i64 0))),
 oG 65 62 true (.move (.t 64)),
 oG 66 65 false (.move (.t 10)),
 oG 67 65 false (.bin .eql (.t 66) (.c (.int .i64 0))),
 oG 68 65 false (.move (.t 67)),
 oG 69 68 true (.move (.t 9)),
 oG 70 68 true (.move (.t 11)),
 oG 71 68 true (.bin .leq (.t 69) (.t 70)),
 oG 72 65 false (.pick (.t 68) (.t 71) (.c (.bool false))),
 oG 73 65 false (.move (.t 72)),
 oG 74 73 true (.move (.t 9)),
 oG 75 73 true (.bin .geq (.t 74) (.c (.int .i64 0))),
 oG 76 65 false (.pick (.t 73) (.t 75) (.c (.bool false))),
 oG 77 62 true (.pick (.t 65) (.c (.bool true)) (.t 76)),
 oP 78 (.pick (.t 62) (.t 77) (.c (.bool false))),
 oP 79 (.move (.t 78)),
 oG 80 79 true (.move (.t 16)),
 oG 81 79 true (.bin .neq (.t 80) (.c (.int .i64 0))),
 oG 82 79 true (.move (.t 81)),
 oG 83 82 false (.move (.t 14)),
 oG 84 82 false (.bin .eql (.t 83) (.c (.int .i64 0))),
 oG 85 82 false (.move (.t 84)),
 oG 86 85 true (.move (.t 13)),
 oG 87 85 true (.move (.t 15)),
 oG 88 85 true (.bin .leq (.t 86) (.t 87)),
 oG 89 82 false (.pick (.t 85) (.t 88) (.c (.bool false))),
 oG 90 82 false (.move (.t 89)),
 oG 91 90 true (.move (.t 13)),
 oG 92 90 true (.bin .geq (.t 91) (.c (.int .i64 0))),
 oG 93 82 false (.pick (.t 90) (.t 92) (.c (.bool false))),
 oG 94 79 true (.pick (.t 82) (.c (.bool true)) (.t 93)),
 oP 95 (.pick (.t 79) (.t 94) (.c (.bool false))),
 oP 96 (.move (.t 95)),
 oG 97 96 true (.move (.t 6)),
 oG 98 96 true (.move (.t 10)),
 oG 99 96 true (.bin .eql (.t 97) (.t 98)),
 oP 100 (.pick (.t 96) (.t 99) (.c (.bool false))),
 oP 101 (.move (.t 100)),
 oG 102 101 true (.move (.t 8)),
 oG 103 101 true (.move (.t 12)),
 oG 104 101 true (.bin .eql (.t 102) (.t 103)),
 oP 105 (.pick (.t 101) (.t 104) (.c (.bool false))),
 oP 4 (.move (.t 105))])
 (.ret))))))))⟩
/-- almadraba/almadrabatop.laid -/
def f12 : AFn := ⟨39, [.cell true 4 4],
 .seq (.region 0 [oQ 2 (.box (.t 0)),
 oQ 4 (.alloc [.nils, .int .i64 0, .nils, .nils])])
 (.seq (.region 0 [oQ 8 (.load true 4 (.t 2)),
 oQ 9 (.call 2 28 [(.t 8)]),
 oQ 5 (.alloc [.nils, .int .i64 0, .nils, .nils]),
 ⟨none, .store 4 (.t 5) (.t 9), none, none, []⟩])
 (.seq (.seq (.region 0 [oP 6 (.move (.c (.int .i64 0)))])
 (.block 0 (.loop (.seq (.seq (.region 0 [oP 10 (.move (.t 6)),
 oP 11 (.fieldAddr 2 (.t 5)),
 oQ 12 (.load false 1 (.t 11)),
 oP 13 (.lenS (.t 12)),
 oP 14 (.bin .lss (.t 10) (.t 13)),
 oP 15 (.move (.t 14)),
 oG 16 15 true (.move (.t 6)),
 oG 17 15 true (.move (.t 1)),
 oG 18 15 true (.lenS (.t 17)),
 oG 19 15 true (.bin .lss (.t 16) (.t 18)),
 oP 20 (.pick (.t 15) (.t 19) (.c (.bool false)))])
 (.cond (.t 20) (.skip)
 (.exit 0)))
 (.seq (.block 1 (.seq (.region 0 [oP 23 (.fieldAddr 2 (.t 5)),
 oQ 24 (.load false 1 (.t 23)),
 oP 25 (.move (.t 6)),
 oP 26 (.idxSl 2 (.t 24) (.t 25)),
 oQ 27 (.load true 2 (.t 26)),
 oQ 7 (.alloc [.int .i64 0, .int .i64 0]),
 ⟨none, .store 2 (.t 7) (.t 27), none, none, []⟩])
 (.seq (.region 0 [oP 28 (.move (.t 1)),
 oP 29 (.move (.t 6)),
 oP 30 (.idxSl 1 (.t 28) (.t 29)),
 oQ 31 (.load false 1 (.t 30)),
 oP 32 (.fieldAddr 1 (.t 7)),
 ⟨none, .store 1 (.t 32) (.t 31), none, none, []⟩])
 (.region 0 [oP 33 (.fieldAddr 2 (.t 5)),
 oQ 34 (.load false 1 (.t 33)),
 oP 35 (.move (.t 6)),
 oQ 36 (.load true 2 (.t 7)),
 oP 37 (.idxSl 2 (.t 34) (.t 35)),
 ⟨none, .store 2 (.t 37) (.t 36), none, none, []⟩]))))
 (.region 0 [oP 21 (.move (.t 6)),
 oP 22 (.bin .add (.t 21) (.c (.int .i64 1))),
 oP 6 (.move (.t 22))]))))))
 (.seq (.region 0 [oQ 38 (.load true 4 (.t 5)),
 ⟨none, .store 4 (.t 4) (.t 38), none, none, []⟩])
 (.ret))))⟩
/-- almadraba/almadrabaref07.within -/
def f13 : AFn := ⟨11, [.tmp 6],
 .seq (.region 0 [oP 6 (.move (.c (.bool false)))])
 (.seq (.region 0 [oP 7 (.move (.t 0)),
 oP 8 (.move (.t 1)),
 oP 9 (.move (.t 2)),
 oQ 10 (.call 1 29 [(.t 7), (.t 8), (.t 9)]),
 oP 6 (.move (.t 10))])
 (.ret))⟩
/-- almadraba/almadrabaref07.isSpan -/
def f14 : AFn := ⟨13, [.tmp 2],
 .seq (.region 0 [oQ 1 (.box (.t 0)),
 oP 2 (.move (.c (.bool false)))])
 (.seq (.region 0 [oP 3 (.fieldAddr 1 (.t 1)),
 oQ 4 (.load false 1 (.t 3)),
 oQ 5 (.call 1 13 [(.t 4), (.c (.int .i64 0)), (.c (.int .i64 30))]),
 oP 6 (.move (.t 5)),
 oG 7 6 true (.fieldAddr 0 (.t 1)),
 ⟨(some 8), .load false 1 (.t 7), (some (6, true)), none, []⟩,
 oG 9 6 true (.fieldAddr 1 (.t 1)),
 ⟨(some 10), .load false 1 (.t 9), (some (6, true)), none, []⟩,
 ⟨(some 11), .call 1 13 [(.t 8), (.c (.int .i64 0)), (.t 10)], (some (6, true)), none, []⟩,
 oP 12 (.pick (.t 6) (.t 11) (.c (.bool false))),
 oP 2 (.move (.t 12))])
 (.ret))⟩
/-- almadraba/almadrabaref07.IsParting -/
def f15 : AFn := ⟨53, [.tmp 4],
 .seq (.region 0 [oP 4 (.move (.c (.bool false)))])
 (.seq (.seq (.region 0 [oP 7 (.move (.t 1)),
 oP 8 (.lenS (.t 7)),
 oP 9 (.move (.t 0)),
 oP 10 (.lenS (.t 9)),
 oP 11 (.bin .neq (.t 8) (.t 10))])
 (.cond (.t 11) (.seq (.region 0 [oP 4 (.move (.c (.bool false)))])
 (.ret))
 (.skip)))
 (.seq (.seq (.region 0 [oP 5 (.move (.c (.int .i64 0)))])
 (.block 0 (.loop (.seq (.seq (.region 0 [oP 12 (.move (.t 5)),
 oP 13 (.move (.t 1)),
 oP 14 (.lenS (.t 13)),
 oP 15 (.bin .lss (.t 12) (.t 14))])
 (.cond (.t 15) (.skip)
 (.exit 0)))
 (.seq (.block 1 (.seq (.region 0 [oP 18 (.move (.t 1)),
 oP 19 (.move (.t 5)),
 oP 20 (.idxSl 1 (.t 18) (.t 19)),
 oQ 21 (.load false 1 (.t 20)),
 oQ 22 (.call 1 13 [(.t 21), (.c (.int .i64 0)), (.c (.int .i64 30))]),
 oP 23 (.un .not (.t 22))])
 (.cond (.t 23) (.seq (.region 0 [oP 4 (.move (.c (.bool false)))])
 (.ret))
 (.skip))))
 (.region 0 [oP 16 (.move (.t 5)),
 oP 17 (.bin .add (.t 16) (.c (.int .i64 1))),
 oP 5 (.move (.t 17))]))))))
 (.seq (.seq (.region 0 [oP 6 (.move (.c (.int .i64 0)))])
 (.block 2 (.loop (.seq (.seq (.region 0 [oP 24 (.move (.t 6)),
 oP 25 (.move (.t 0)),
 oP 26 (.lenS (.t 25)),
 oP 27 (.bin .lss (.t 24) (.t 26))])
 (.cond (.t 27) (.skip)
 (.exit 2)))
 (.seq (.block 3 (.seq (.region 0 [oP 30 (.move (.t 0)),
 oP 31 (.move (.t 6)),
 oQ 32 (.call 1 30 [(.t 30), (.t 31)]),
 oP 33 (.move (.t 32)),
 oG 34 33 true (.move (.t 0)),
 oG 35 33 true (.move (.t 1)),
 oG 36 33 true (.move (.t 6)),
 ⟨(some 37), .call 1 31 [(.t 34), (.t 35), (.t 36)], (some (33, true)), none, []⟩,
 oG 38 33 true (.move (.t 0)),
 oG 39 33 true (.move (.t 6)),
 oG 40 33 true (.idxSl 6 (.t 38) (.t 39)),
 oG 41 33 true (.fieldAddr 3 (.t 40)),
 oG 42 33 true (.fieldAddr 0 (.t 41)),
 ⟨(some 43), .load false 1 (.t 42), (some (33, true)), none, []⟩,
 oG 44 33 true (.move (.t 0)),
 oG 45 33 true (.move (.t 6)),
 oG 46 33 true (.idxSl 6 (.t 44) (.t 45)),
 oG 47 33 true (.fieldAddr 3 (.t 46)),
 oG 48 33 true (.fieldAddr 1 (.t 47)),
 ⟨(some 49), .load false 1 (.t 48), (some (33, true)), none, []⟩,
 ⟨(some 50), .call 1 13 [(.t 37), (.t 43), (.t 49)], (some (33, true)), none, []⟩,
 oG 51 33 true (.un .not (.t 50)),
 oP 52 (.pick (.t 33) (.t 51) (.c (.bool false)))])
 (.cond (.t 52) (.seq (.region 0 [oP 4 (.move (.c (.bool false)))])
 (.ret))
 (.skip))))
 (.region 0 [oP 28 (.move (.t 6)),
 oP 29 (.bin .add (.t 28) (.c (.int .i64 1))),
 oP 6 (.move (.t 29))]))))))
 (.seq (.region 0 [oP 4 (.move (.c (.bool true)))])
 (.ret)))))⟩
/-- almadraba/almadrabaref07.ChangeOf -/
def f16 : AFn := ⟨26, [.tmp 4],
 .seq (.region 0 [oP 4 (.move (.c (.int .i64 0)))])
 (.seq (.region 0 [oP 5 (.move (.c (.int .i64 0)))])
 (.seq (.seq (.region 0 [oP 6 (.move (.c (.int .i64 0)))])
 (.block 0 (.loop (.seq (.seq (.region 0 [oP 7 (.move (.t 6)),
 oP 8 (.move (.t 0)),
 oP 9 (.lenS (.t 8)),
 oP 10 (.bin .lss (.t 7) (.t 9))])
 (.cond (.t 10) (.skip)
 (.exit 0)))
 (.seq (.block 1 (.region 0 [oP 13 (.move (.t 5)),
 oP 14 (.move (.t 0)),
 oP 15 (.move (.t 6)),
 oP 16 (.idxSl 6 (.t 14) (.t 15)),
 oP 17 (.fieldAddr 1 (.t 16)),
 oQ 18 (.load true 2 (.t 17)),
 oP 19 (.move (.t 1)),
 oP 20 (.move (.t 6)),
 oP 21 (.idxSl 1 (.t 19) (.t 20)),
 oQ 22 (.load false 1 (.t 21)),
 oQ 23 (.call 1 32 [(.t 18), (.t 22)]),
 oP 24 (.bin .add (.t 13) (.t 23)),
 oP 5 (.move (.t 24))]))
 (.region 0 [oP 11 (.move (.t 6)),
 oP 12 (.bin .add (.t 11) (.c (.int .i64 1))),
 oP 6 (.move (.t 12))]))))))
 (.seq (.region 0 [oP 25 (.move (.t 5)),
 oP 4 (.move (.t 25))])
 (.ret))))⟩
/-- almadraba/almadrabaref08.within -/
def f17 : AFn := ⟨11, [.tmp 6],
 .seq (.region 0 [oP 6 (.move (.c (.bool false)))])
 (.seq (.region 0 [oP 7 (.move (.t 0)),
 oP 8 (.move (.t 1)),
 oP 9 (.move (.t 2)),
 oQ 10 (.call 1 29 [(.t 7), (.t 8), (.t 9)]),
 oP 6 (.move (.t 10))])
 (.ret))⟩
/-- almadraba/almadrabalaw07.Example -/
def f18 : AFn := ⟨16, [.tmp 0, .tmp 1],
 .seq (.region 0 [oP 0 (.move (.c (.nils))),
 oP 1 (.move (.c (.nils)))])
 (.seq (.region 0 [oQ 2 (.call 1 33 [(.c (.int .i64 (-1))), (.c (.int .i64 20)), (.c (.int .i64 24)), (.c (.int .i64 1)), (.c (.int .i64 3)), (.c (.int .i64 2))]),
 oQ 3 (.call 1 33 [(.c (.int .i64 0)), (.c (.int .i64 8)), (.c (.int .i64 12)), (.c (.int .i64 0)), (.c (.int .i64 2)), (.c (.int .i64 3))]),
 oQ 4 (.call 1 33 [(.c (.int .i64 0)), (.c (.int .i64 9)), (.c (.int .i64 10)), (.c (.int .i64 0)), (.c (.int .i64 0)), (.c (.int .i64 4))]),
 oQ 5 (.call 1 33 [(.c (.int .i64 1)), (.c (.int .i64 6)), (.c (.int .i64 7)), (.c (.int .i64 0)), (.c (.int .i64 0)), (.c (.int .i64 6))]),
 oQ 6 (.call 1 33 [(.c (.int .i64 1)), (.c (.int .i64 0)), (.c (.int .i64 30)), (.c (.int .i64 0)), (.c (.int .i64 0)), (.c (.int .i64 1))]),
 oQ 7 (.litS 6 5 [.int .i64 0, .int .i64 0, .int .i64 0, .int .i64 0, .int .i64 0, .int .i64 0] [(0, (.t 2)), (1, (.t 3)), (2, (.t 4)), (3, (.t 5)), (4, (.t 6))]),
 oP 0 (.move (.t 7))])
 (.seq (.region 0 [oQ 8 (.buildSlice 6 0 [.int .i64 0, .int .i64 0, .int .i64 0, .int .i64 0, .int .i64 0, .int .i64 0] []),
 oP 9 (.move (.t 0)),
 oQ 10 (.append false 6 48 (.t 8) (.t 9)),
 oP 1 (.move (.t 10))])
 (.seq (.region 0 [oP 11 (.move (.t 1)),
 oQ 12 (.call 1 33 [(.c (.int .i64 0)), (.c (.int .i64 0)), (.c (.int .i64 5)), (.c (.int .i64 0)), (.c (.int .i64 2)), (.c (.int .i64 3))]),
 oP 13 (.idxSl 6 (.t 11) (.c (.int .i64 1))),
 ⟨none, .store 6 (.t 13) (.t 12), none, none, []⟩])
 (.seq (.region 0 [oP 14 (.move (.t 0)),
 oP 15 (.move (.t 1)),
 oP 0 (.move (.t 14)),
 oP 1 (.move (.t 15))])
 (.ret)))))⟩
/-- almadraba/almadrabalaw08.Example -/
def f19 : AFn := ⟨16, [.cell true 4 0, .cell true 4 1],
 .seq (.region 0 [oQ 0 (.alloc [.nils, .int .i64 0, .nils, .nils]),
 oQ 1 (.alloc [.nils, .int .i64 0, .nils, .nils])])
 (.seq (.region 0 [oP 2 (.build [.int .i64 0, .int .i64 0] [(0, 1, (.c (.int .i64 3))), (1, 1, (.c (.int .i64 10)))]),
 oP 3 (.build [.int .i64 0, .int .i64 0] [(0, 1, (.c (.int .i64 5))), (1, 1, (.c (.int .i64 4)))]),
 oQ 4 (.litS 2 2 [.int .i64 0, .int .i64 0] [(0, (.t 2)), (1, (.t 3))]),
 oP 5 (.build [.int .i64 0, .int .i64 0] [(1, 1, (.c (.int .i64 10)))]),
 oP 6 (.build [.int .i64 0, .int .i64 0] [(1, 1, (.c (.int .i64 15)))]),
 oP 7 (.build [.int .i64 0, .int .i64 0] [(0, 1, (.c (.int .i64 1))), (1, 1, (.c (.int .i64 8)))]),
 oQ 8 (.litS 2 3 [.int .i64 0, .int .i64 0] [(0, (.t 5)), (1, (.t 6)), (2, (.t 7))]),
 oQ 9 (.litS 1 2 [.int .i64 0] [(0, (.c (.int .i64 40))), (1, (.c (.int .i64 20)))]),
 oP 10 (.build [.nils, .int .i64 0, .nils, .nils] [(0, 1, (.t 4)), (1, 1, (.c (.int .i64 2))), (2, 1, (.t 8)), (3, 1, (.t 9))]),
 ⟨none, .store 4 (.t 0) (.t 10), none, none, []⟩])
 (.seq (.region 0 [oQ 11 (.load true 4 (.t 0)),
 ⟨none, .store 4 (.t 1) (.t 11), none, none, []⟩])
 (.seq (.region 0 [oQ 12 (.litS 1 2 [.int .i64 0] [(0, (.c (.int .i64 40))), (1, (.c (.int .i64 13)))]),
 oP 13 (.fieldAddr 3 (.t 1)),
 ⟨none, .store 1 (.t 13) (.t 12), none, none, []⟩])
 (.seq (.region 0 [oQ 14 (.load true 4 (.t 0)),
 oQ 15 (.loadR true 4 (.t 1) 1),
 ⟨none, .storeR 4 (.t 0) (.t 14) [1], none, none, []⟩,
 ⟨none, .store 4 (.t 1) (.t 15), none, none, []⟩])
 (.ret)))))⟩
/-- almadraba/salt.Pack -/
def f20 : AFn := ⟨21, [.tmp 2, .tmp 3],
 .seq (.region 0 [oQ 1 (.box (.t 0)),
 oP 2 (.move (.c (.nils))),
 oP 3 (.move (.c (.int .i64 0)))])
 (.seq (.seq (.region 0 [oQ 8 (.load true 4 (.t 1)),
 oQ 9 (.call 1 34 [(.t 8)]),
 oP 4 (.move (.t 9))])
 (.seq (.region 0 [oP 10 (.move (.t 4)),
 oP 11 (.bin .neq (.t 10) (.c (.int .i64 0)))])
 (.cond (.t 11) (.seq (.region 0 [oP 12 (.move (.t 4)),
 oP 2 (.move (.c (.nils))),
 oP 3 (.move (.t 12))])
 (.ret))
 (.skip))))
 (.seq (.region 0 [oQ 14 (.load true 4 (.t 1)),
 oQ 15 (.call 1 35 [(.t 14), (.c (.fn 36 [] []))]),
 oP 13 (.move (.t 15)),
 oP 16 (.extract (.t 13) 0),
 oP 17 (.extract (.t 13) 1),
 oP 18 (.extract (.t 13) 2),
 oP 5 (.move (.t 16)),
 oP 6 (.move (.t 17)),
 oP 7 (.move (.t 18))])
 (.seq (.region 0 [oP 19 (.move (.t 5)),
 oP 20 (.move (.t 7)),
 oP 2 (.move (.t 19)),
 oP 3 (.move (.t 20))])
 (.ret))))⟩
/-- almadraba/almadrabaref01.SameInts -/
def f21 : AFn := ⟨26, [.tmp 4],
 .seq (.region 0 [oP 4 (.move (.c (.bool false)))])
 (.seq (.seq (.region 0 [oP 6 (.move (.t 0)),
 oP 7 (.lenS (.t 6)),
 oP 8 (.move (.t 1)),
 oP 9 (.lenS (.t 8)),
 oP 10 (.bin .neq (.t 7) (.t 9))])
 (.cond (.t 10) (.seq (.region 0 [oP 4 (.move (.c (.bool false)))])
 (.ret))
 (.skip)))
 (.seq (.seq (.region 0 [oP 5 (.move (.c (.int .i64 0)))])
 (.block 0 (.loop (.seq (.seq (.region 0 [oP 11 (.move (.t 5)),
 oP 12 (.move (.t 0)),
 oP 13 (.lenS (.t 12)),
 oP 14 (.bin .lss (.t 11) (.t 13))])
 (.cond (.t 14) (.skip)
 (.exit 0)))
 (.seq (.block 1 (.seq (.region 0 [oP 17 (.move (.t 0)),
 oP 18 (.move (.t 5)),
 oP 19 (.idxSl 1 (.t 17) (.t 18)),
 oQ 20 (.load false 1 (.t 19)),
 oP 21 (.move (.t 1)),
 oP 22 (.move (.t 5)),
 oP 23 (.idxSl 1 (.t 21) (.t 22)),
 oQ 24 (.load false 1 (.t 23)),
 oP 25 (.bin .neq (.t 20) (.t 24))])
 (.cond (.t 25) (.seq (.region 0 [oP 4 (.move (.c (.bool false)))])
 (.ret))
 (.skip))))
 (.region 0 [oP 15 (.move (.t 5)),
 oP 16 (.bin .add (.t 15) (.c (.int .i64 1))),
 oP 5 (.move (.t 16))]))))))
 (.seq (.region 0 [oP 4 (.move (.c (.bool true)))])
 (.ret))))⟩
/-- almadraba/cuts.fitPart -/
def f22 : AFn := ⟨17, [.tmp 4],
 .seq (.region 0 [oP 4 (.move (.c (.int .i64 0)))])
 (.seq (.region 0 [oP 6 (.move (.t 0)),
 oQ 7 (.call 1 37 [(.t 6)]),
 oP 5 (.move (.t 7))])
 (.seq (.seq (.region 0 [oP 8 (.move (.t 5)),
 oP 9 (.bin .eql (.t 8) (.c (.int .i64 0))),
 oP 10 (.move (.t 9)),
 oG 11 10 true (.move (.t 0)),
 oG 12 10 true (.move (.t 1)),
 ⟨(some 13), .call 1 38 [(.t 11), (.t 12)], (some (10, true)), none, []⟩,
 oG 14 10 true (.un .not (.t 13)),
 oP 15 (.pick (.t 10) (.t 14) (.c (.bool false)))])
 (.cond (.t 15) (.seq (.region 0 [oP 4 (.move (.c (.int .i64 1)))])
 (.ret))
 (.skip)))
 (.seq (.region 0 [oP 16 (.move (.t 5)),
 oP 4 (.move (.t 16))])
 (.ret))))⟩
/-- (almadraba/cuts.table).between -/
def f23 : AFn := ⟨29, [.cell true 2 4, .tmp 5],
 .seq (.region 0 [oQ 3 (.box (.t 1)),
 oQ 4 (.alloc [.int .i64 0, .int .i64 0]),
 oP 5 (.move (.c (.int .i64 0)))])
 (.seq (.region 0 [oP 8 (.move (.t 0)),
 oP 9 (.move (.t 0)),
 oQ 10 (.load true 8 (.t 3)),
 oP 11 (.mkFn 41 [(.t 10)] []),
 oQ 12 (.call 0 40 [(.t 9), (.t 11)]),
 oQ 13 (.call 3 39 [(.t 8), (.t 12)]),
 oP 6 (.move (.t 13))])
 (.seq (.seq (.region 0 [oP 14 (.move (.t 6)),
 oP 15 (.bin .eql (.t 14) (.c (.int .i64 9223372036854775807)))])
 (.cond (.t 15) (.seq (.region 0 [oP 16 (.build [.int .i64 0, .int .i64 0] []),
 ⟨none, .store 2 (.t 4) (.t 16), none, none, []⟩,
 oP 5 (.move (.c (.int .i64 3)))])
 (.ret))
 (.skip)))
 (.seq (.region 0 [oP 17 (.move (.t 0)),
 oP 18 (.move (.t 0)),
 oP 19 (.build [.int .i64 0, .int .i64 0, .int .i64 0, .int .i64 0, .int .i64 0, .int .i64 0, .int .i64 0, .int .i64 0] []),
 oQ 20 (.load true 8 (.t 3)),
 oQ 21 (.call 1 42 [(.t 19), (.t 20)]),
 oP 22 (.mkFn 41 [(.t 21)] []),
 oQ 23 (.call 0 40 [(.t 18), (.t 22)]),
 oQ 24 (.call 3 39 [(.t 17), (.t 23)]),
 oP 25 (.un .neg (.t 24)),
 oP 7 (.move (.t 25))])
 (.seq (.region 0 [oP 26 (.move (.t 6)),
 oP 27 (.move (.t 7)),
 oP 28 (.build [.int .i64 0, .int .i64 0] [(0, 1, (.t 26)), (1, 1, (.t 27))]),
 ⟨none, .store 2 (.t 4) (.t 28), none, none, []⟩,
 oP 5 (.move (.c (.int .i64 0)))])
 (.ret)))))⟩
/-- almadraba/cuts.alone -/
def f24 : AFn := ⟨7, [.cell true 8 2],
 .seq (.region 0 [oQ 2 (.alloc [.int .i64 0, .int .i64 0, .int .i64 0, .int .i64 0, .int .i64 0, .int .i64 0, .int .i64 0, .int .i64 0])])
 (.seq (.region 0 [oQ 3 (.alloc [.int .i64 0, .int .i64 0, .int .i64 0, .int .i64 0, .int .i64 0, .int .i64 0, .int .i64 0, .int .i64 0])])
 (.seq (.region 0 [oP 4 (.move (.t 0)),
 oP 5 (.idxArr 8 1 (.t 3) (.t 4)),
 ⟨none, .store 1 (.t 5) (.c (.int .i64 1)), none, none, []⟩])
 (.seq (.region 0 [oQ 6 (.load true 8 (.t 3)),
 ⟨none, .store 8 (.t 2) (.t 6), none, none, []⟩])
 (.ret))))⟩
/-- almadraba/salt.Least -/
def f25 : AFn := ⟨21, [.tmp 2, .tmp 3],
 .seq (.region 0 [oQ 1 (.box (.t 0)),
 oP 2 (.move (.c (.int .i64 0))),
 oP 3 (.move (.c (.int .i64 0)))])
 (.seq (.seq (.region 0 [oQ 8 (.load true 4 (.t 1)),
 oQ 9 (.call 1 34 [(.t 8)]),
 oP 4 (.move (.t 9))])
 (.seq (.region 0 [oP 10 (.move (.t 4)),
 oP 11 (.bin .neq (.t 10) (.c (.int .i64 0)))])
 (.cond (.t 11) (.seq (.region 0 [oP 12 (.move (.t 4)),
 oP 2 (.move (.c (.int .i64 0))),
 oP 3 (.move (.t 12))])
 (.ret))
 (.skip))))
 (.seq (.region 0 [oQ 14 (.load true 4 (.t 1)),
 oQ 15 (.call 1 35 [(.t 14), (.c (.fn 36 [] []))]),
 oP 13 (.move (.t 15)),
 oP 16 (.extract (.t 13) 0),
 oP 17 (.extract (.t 13) 1),
 oP 18 (.extract (.t 13) 2),
 oP 5 (.move (.t 16)),
 oP 6 (.move (.t 17)),
 oP 7 (.move (.t 18))])
 (.seq (.region 0 [oP 19 (.move (.t 6)),
 oP 20 (.move (.t 7)),
 oP 2 (.move (.t 19)),
 oP 3 (.move (.t 20))])
 (.ret))))⟩
/-- almadraba/salt.Fewest -/
def f26 : AFn := ⟨21, [.tmp 2, .tmp 3],
 .seq (.region 0 [oQ 1 (.box (.t 0)),
 oP 2 (.move (.c (.int .i64 0))),
 oP 3 (.move (.c (.int .i64 0)))])
 (.seq (.seq (.region 0 [oQ 8 (.load true 4 (.t 1)),
 oQ 9 (.call 1 34 [(.t 8)]),
 oP 4 (.move (.t 9))])
 (.seq (.region 0 [oP 10 (.move (.t 4)),
 oP 11 (.bin .neq (.t 10) (.c (.int .i64 0)))])
 (.cond (.t 11) (.seq (.region 0 [oP 12 (.move (.t 4)),
 oP 2 (.move (.c (.int .i64 0))),
 oP 3 (.move (.t 12))])
 (.ret))
 (.skip))))
 (.seq (.region 0 [oQ 14 (.load true 4 (.t 1)),
 oQ 15 (.call 1 35 [(.t 14), (.c (.fn 43 [] []))]),
 oP 13 (.move (.t 15)),
 oP 16 (.extract (.t 13) 0),
 oP 17 (.extract (.t 13) 1),
 oP 18 (.extract (.t 13) 2),
 oP 5 (.move (.t 16)),
 oP 6 (.move (.t 17)),
 oP 7 (.move (.t 18))])
 (.seq (.region 0 [oP 19 (.move (.t 6)),
 oP 20 (.move (.t 7)),
 oP 2 (.move (.t 19)),
 oP 3 (.move (.t 20))])
 (.ret))))⟩
/-- almadraba/salt.Buy -/
def f27 : AFn := ⟨14, [.tmp 2, .tmp 3],
 .seq (.region 0 [oQ 1 (.box (.t 0)),
 oP 2 (.move (.c (.int .i64 0))),
 oP 3 (.move (.c (.int .i64 0)))])
 (.seq (.seq (.region 0 [oQ 5 (.load true 4 (.t 1)),
 oQ 6 (.call 1 34 [(.t 5)]),
 oP 4 (.move (.t 6))])
 (.seq (.region 0 [oP 7 (.move (.t 4)),
 oP 8 (.bin .neq (.t 7) (.c (.int .i64 0)))])
 (.cond (.t 8) (.seq (.region 0 [oP 9 (.move (.t 4)),
 oP 2 (.move (.c (.int .i64 0))),
 oP 3 (.move (.t 9))])
 (.ret))
 (.skip))))
 (.seq (.region 0 [oQ 10 (.load true 4 (.t 1)),
 oQ 11 (.call 1 44 [(.t 10)]),
 oP 12 (.extract (.t 11) 0),
 oP 13 (.extract (.t 11) 1),
 oP 2 (.move (.t 12)),
 oP 3 (.move (.t 13))])
 (.ret)))⟩
/-- almadraba/almadrabaref08.Copy -/
def f28 : AFn := ⟨21, [.cell true 4 2],
 .seq (.region 0 [oQ 1 (.box (.t 0)),
 oQ 2 (.alloc [.nils, .int .i64 0, .nils, .nils])])
 (.seq (.region 0 [oQ 4 (.load true 4 (.t 1)),
 oQ 3 (.alloc [.nils, .int .i64 0, .nils, .nils]),
 ⟨none, .store 4 (.t 3) (.t 4), none, none, []⟩])
 (.seq (.region 0 [oQ 5 (.buildSlice 2 0 [.int .i64 0, .int .i64 0] []),
 oP 6 (.fieldAddr 0 (.t 1)),
 oQ 7 (.load false 1 (.t 6)),
 oQ 8 (.append false 2 16 (.t 5) (.t 7)),
 oP 9 (.fieldAddr 0 (.t 3)),
 ⟨none, .store 1 (.t 9) (.t 8), none, none, []⟩])
 (.seq (.region 0 [oQ 10 (.buildSlice 2 0 [.int .i64 0, .int .i64 0] []),
 oP 11 (.fieldAddr 2 (.t 1)),
 oQ 12 (.load false 1 (.t 11)),
 oQ 13 (.append false 2 16 (.t 10) (.t 12)),
 oP 14 (.fieldAddr 2 (.t 3)),
 ⟨none, .store 1 (.t 14) (.t 13), none, none, []⟩])
 (.seq (.region 0 [oQ 15 (.buildSlice 1 0 [.int .i64 0] []),
 oP 16 (.fieldAddr 3 (.t 1)),
 oQ 17 (.load false 1 (.t 16)),
 oQ 18 (.append false 1 8 (.t 15) (.t 17)),
 oP 19 (.fieldAddr 3 (.t 3)),
 ⟨none, .store 1 (.t 19) (.t 18), none, none, []⟩])
 (.seq (.region 0 [oQ 20 (.load true 4 (.t 3)),
 ⟨none, .store 4 (.t 2) (.t 20), none, none, []⟩])
 (.ret))))))⟩
/-- almadraba/almadrabaref01.Within -/
def f29 : AFn := ⟨15, [.tmp 6],
 .seq (.region 0 [oP 6 (.move (.c (.bool false)))])
 (.seq (.region 0 [oP 7 (.move (.t 1)),
 oP 8 (.move (.t 0)),
 oP 9 (.bin .leq (.t 7) (.t 8)),
 oP 10 (.move (.t 9)),
 oG 11 10 true (.move (.t 0)),
 oG 12 10 true (.move (.t 2)),
 oG 13 10 true (.bin .leq (.t 11) (.t 12)),
 oP 14 (.pick (.t 10) (.t 13) (.c (.bool false))),
 oP 6 (.move (.t 14))])
 (.ret))⟩
/-- almadraba/almadrabaref07.CanCut -/
def f30 : AFn := ⟨19, [.tmp 4],
 .seq (.region 0 [oP 4 (.move (.c (.bool false)))])
 (.seq (.seq (.region 0 [oP 5 (.move (.c (.int .i64 0)))])
 (.block 0 (.loop (.seq (.seq (.region 0 [oP 6 (.move (.t 5)),
 oP 7 (.move (.t 0)),
 oP 8 (.lenS (.t 7)),
 oP 9 (.bin .lss (.t 6) (.t 8))])
 (.cond (.t 9) (.skip)
 (.exit 0)))
 (.seq (.block 1 (.seq (.region 0 [oP 12 (.move (.t 0)),
 oP 13 (.move (.t 5)),
 oP 14 (.idxSl 6 (.t 12) (.t 13)),
 oP 15 (.fieldAddr 0 (.t 14)),
 oQ 16 (.load false 1 (.t 15)),
 oP 17 (.move (.t 1)),
 oP 18 (.bin .eql (.t 16) (.t 17))])
 (.cond (.t 18) (.seq (.region 0 [oP 4 (.move (.c (.bool true)))])
 (.ret))
 (.skip))))
 (.region 0 [oP 10 (.move (.t 5)),
 oP 11 (.bin .add (.t 10) (.c (.int .i64 1))),
 oP 5 (.move (.t 11))]))))))
 (.seq (.region 0 [oP 4 (.move (.c (.bool false)))])
 (.ret)))⟩
/-- almadraba/almadrabaref07.LostOf -/
def f31 : AFn := ⟨33, [.tmp 6],
 .seq (.region 0 [oP 6 (.move (.c (.int .i64 0)))])
 (.seq (.region 0 [oP 9 (.move (.t 1)),
 oP 10 (.move (.t 2)),
 oP 11 (.idxSl 1 (.t 9) (.t 10)),
 oQ 12 (.load false 1 (.t 11)),
 oP 7 (.move (.t 12))])
 (.seq (.seq (.region 0 [oP 8 (.move (.c (.int .i64 0)))])
 (.block 0 (.loop (.seq (.seq (.region 0 [oP 13 (.move (.t 8)),
 oP 14 (.move (.t 0)),
 oP 15 (.lenS (.t 14)),
 oP 16 (.bin .lss (.t 13) (.t 15))])
 (.cond (.t 16) (.skip)
 (.exit 0)))
 (.seq (.block 1 (.seq (.region 0 [oP 19 (.move (.t 0)),
 oP 20 (.move (.t 8)),
 oP 21 (.idxSl 6 (.t 19) (.t 20)),
 oP 22 (.fieldAddr 0 (.t 21)),
 oQ 23 (.load false 1 (.t 22)),
 oP 24 (.move (.t 2)),
 oP 25 (.bin .eql (.t 23) (.t 24))])
 (.cond (.t 25) (.region 0 [oP 26 (.move (.t 7)),
 oP 27 (.move (.t 1)),
 oP 28 (.move (.t 8)),
 oP 29 (.idxSl 1 (.t 27) (.t 28)),
 oQ 30 (.load false 1 (.t 29)),
 oP 31 (.bin .sub (.t 26) (.t 30)),
 oP 7 (.move (.t 31))])
 (.skip))))
 (.region 0 [oP 17 (.move (.t 8)),
 oP 18 (.bin .add (.t 17) (.c (.int .i64 1))),
 oP 8 (.move (.t 18))]))))))
 (.seq (.region 0 [oP 32 (.move (.t 7)),
 oP 6 (.move (.t 32))])
 (.ret))))⟩
/-- almadraba/almadrabaref07.away -/
def f32 : AFn := ⟨14, [.tmp 4],
 .seq (.region 0 [oQ 2 (.box (.t 0)),
 oP 4 (.move (.c (.int .i64 0)))])
 (.seq (.region 0 [oP 5 (.fieldAddr 0 (.t 2)),
 oQ 6 (.load false 1 (.t 5)),
 oP 7 (.move (.t 1)),
 oP 8 (.bin .sub (.t 6) (.t 7)),
 oP 9 (.move (.t 1)),
 oP 10 (.fieldAddr 1 (.t 2)),
 oQ 11 (.load false 1 (.t 10)),
 oP 12 (.bin .sub (.t 9) (.t 11)),
 oP 13 (.minmax true (.c (.int .i64 0)) [(.t 8), (.t 12)]),
 oP 4 (.move (.t 13))])
 (.ret))⟩
/-- almadraba/almadrabalaw07.part -/
def f33 : AFn := ⟨22, [.cell true 6 12],
 .seq (.region 0 [oQ 12 (.alloc [.int .i64 0, .int .i64 0, .int .i64 0, .int .i64 0, .int .i64 0, .int .i64 0])])
 (.seq (.region 0 [oP 13 (.move (.t 0)),
 oP 14 (.move (.t 1)),
 oP 15 (.move (.t 2)),
 oP 16 (.build [.int .i64 0, .int .i64 0] [(0, 1, (.t 14)), (1, 1, (.t 15))]),
 oP 17 (.move (.t 3)),
 oP 18 (.move (.t 4)),
 oP 19 (.build [.int .i64 0, .int .i64 0] [(0, 1, (.t 17)), (1, 1, (.t 18))]),
 oP 20 (.move (.t 5)),
 oP 21 (.build [.int .i64 0, .int .i64 0, .int .i64 0, .int .i64 0, .int .i64 0, .int .i64 0] [(0, 1, (.t 13)), (1, 2, (.t 16)), (3, 2, (.t 19)), (5, 1, (.t 20))]),
 ⟨none, .store 6 (.t 12) (.t 21), none, none, []⟩])
 (.ret))⟩
/-- almadraba/salt.Check -/
def f34 : AFn := ⟨6, [.tmp 2],
 .seq (.region 0 [oQ 1 (.box (.t 0)),
 oP 2 (.move (.c (.int .i64 0)))])
 (.seq (.seq (.region 0 [oQ 3 (.load true 4 (.t 1)),
 oQ 4 (.call 1 45 [(.t 3)]),
 oP 5 (.un .not (.t 4))])
 (.cond (.t 5) (.seq (.region 0 [oP 2 (.move (.c (.int .i64 80)))])
 (.ret))
 (.skip)))
 (.seq (.region 0 [oP 2 (.move (.c (.int .i64 0)))])
 (.ret)))⟩
/-- (almadraba/salt.house).best -/
def f35 : AFn := ⟨36, [.tmp 4, .tmp 5, .tmp 6],
 .seq (.region 0 [oQ 2 (.box (.t 0)),
 oQ 3 (.box (.t 1)),
 oP 4 (.move (.c (.nils))),
 oP 5 (.move (.c (.int .i64 0))),
 oP 6 (.move (.c (.int .i64 0)))])
 (.seq (.seq (.region 0 [oQ 12 (.load true 4 (.t 2)),
 oQ 13 (.call 1 46 [(.t 12)]),
 oP 14 (.un .not (.t 13))])
 (.cond (.t 14) (.seq (.region 0 [oP 4 (.move (.c (.nils))),
 oP 5 (.move (.c (.int .i64 0))),
 oP 6 (.move (.c (.int .i64 3)))])
 (.ret))
 (.skip)))
 (.seq (.region 0 [oP 15 (.fieldAddr 2 (.t 2)),
 oQ 16 (.load false 1 (.t 15)),
 oP 17 (.lenS (.t 16)),
 oQ 18 (.makeSlice false 1 8 [.int .i64 0] (.t 17) (.t 17)),
 oQ 7 (.alloc [.nils]),
 oQ 8 (.alloc [.int .i64 0]),
 ⟨none, .store 1 (.t 7) (.t 18), none, none, []⟩,
 ⟨none, .store 1 (.t 8) (.c (.int .i64 9223372036854775807)), none, none, []⟩])
 (.seq (.seq (.region 0 [oQ 19 (.load true 4 (.t 2)),
 oP 20 (.mkFn 47 [(.t 19)] [])])
 (.block 0 (.rangeFunc (.t 20) [21, 22] (.seq (.region 0 [oP 9 (.move (.t 21))])
 (.region 0 [oQ 10 (.alloc [.int .i64 0, .int .i64 0, .int .i64 0, .int .i64 0, .int .i64 0, .int .i64 0, .int .i64 0, .int .i64 0, .int .i64 0, .int .i64 0, .int .i64 0, .int .i64 0, .int .i64 0, .int .i64 0, .int .i64 0, .int .i64 0]),
 ⟨none, .store 16 (.t 10) (.t 22), none, none, []⟩]))
 (.block 1 (.seq (.region 0 [oQ 23 (.load false 1 (.t 3)),
 oQ 24 (.load true 4 (.t 2)),
 oQ 25 (.load true 16 (.t 10)),
 oQ 26 (.callv true (.t 23) [(.t 24), (.t 25)]),
 oP 11 (.move (.t 26))])
 (.seq (.region 0 [oP 27 (.move (.t 11)),
 oQ 28 (.load false 1 (.t 8)),
 oP 29 (.bin .lss (.t 27) (.t 28))])
 (.cond (.t 29) (.seq (.region 0 [oQ 30 (.load false 1 (.t 7)),
 oP 31 (.move (.t 9)),
 oQ 32 (.w (.cpy 1 (.t 30) (.t 31)))])
 (.region 0 [oP 33 (.move (.t 11)),
 ⟨none, .store 1 (.t 8) (.t 33), none, none, []⟩]))
 (.skip))))))))
 (.seq (.region 0 [oQ 34 (.load false 1 (.t 7)),
 oQ 35 (.load false 1 (.t 8)),
 oP 4 (.move (.t 34)),
 oP 5 (.move (.t 35)),
 oP 6 (.move (.c (.int .i64 0)))])
 (.ret)))))⟩
end Go.Proofs.Ytaffjmjahenoaaa.T
