/-
The code of functions of the seat, as the abstract machine has it (printed by a tool of ours off the dump).
-/
import Derived.Test.YtfagcnokdnanpaaGreatAmX
namespace Go.Proofs.YtfagcnokdnanpaaGreat.T
open Go Go.Am
abbrev oP (n : Nat) (p : POp) : AOper := ⟨some n, .p p, none, none, []⟩
abbrev oQ (n : Nat) (p : AOp) : AOper := ⟨some n, p, none, none, []⟩
abbrev oG (n m : Nat) (b : Bool) (p : POp) : AOper := ⟨some n, .p p, some (m, b), none, []⟩
/-- almadraba/almadrabalaw09.SalesPaid -/
def f4 : AFn := ⟨91, [.tmp 2],
 .seq (.region 0 [oQ 1 (.box (.t 0)),
 oP 2 (.move (.c (.bool false)))])
 (.seq (.seq (.region 0 [oQ 13 (.load true 8 (.t 1)),
 oQ 14 (.call 1 13 [(.t 13)]),
 oP 15 (.un .not (.t 14))])
 (.cond (.t 15) (.seq (.region 0 [oQ 16 (.call 1 15 []),
 oP 2 (.move (.t 16))])
 (.ret))
 (.skip)))
 (.seq (.region 0 [oQ 17 (.load true 8 (.t 1)),
 oQ 18 (.call 1 16 [(.t 17)]),
 oP 3 (.move (.t 18))])
 (.seq (.region 0 [oQ 20 (.load true 8 (.t 1)),
 oQ 21 (.call 1 17 [(.t 20)]),
 oP 19 (.move (.t 21)),
 oP 22 (.extract (.t 19) 0),
 oP 23 (.extract (.t 19) 1),
 oP 4 (.move (.t 22)),
 oP 5 (.move (.t 23))])
 (.seq (.region 0 [oQ 25 (.load true 8 (.t 1)),
 oQ 26 (.call 1 24 [(.t 25)]),
 oP 24 (.move (.t 26)),
 oP 27 (.extract (.t 24) 0),
 oP 28 (.extract (.t 24) 1),
 oP 6 (.move (.t 27)),
 oP 7 (.move (.t 28))])
 (.seq (.seq (.region 0 [oP 29 (.move (.t 3)),
 oP 30 (.bin .lss (.t 29) (.c (.int .i64 0))),
 oP 31 (.move (.t 30)),
 oG 32 31 false (.move (.t 5)),
 oG 33 31 false (.un .not (.t 32)),
 oP 34 (.pick (.t 31) (.c (.bool true)) (.t 33)),
 oP 35 (.move (.t 34)),
 oG 36 35 false (.move (.t 7)),
 oG 37 35 false (.bin .neq (.t 36) (.c (.int .i64 0))),
 oP 38 (.pick (.t 35) (.c (.bool true)) (.t 37)),
 oP 39 (.move (.t 38)),
 oG 40 39 false (.move (.t 6)),
 oG 41 39 false (.bin .lss (.t 40) (.c (.int .i64 0))),
 oP 42 (.pick (.t 39) (.c (.bool true)) (.t 41)),
 oP 43 (.move (.t 42)),
 oG 44 43 false (.move (.t 6)),
 oG 45 43 false (.move (.t 3)),
 oG 46 43 false (.bin .gtr (.t 44) (.t 45)),
 oP 47 (.pick (.t 43) (.c (.bool true)) (.t 46))])
 (.cond (.t 47) (.seq (.region 0 [oP 2 (.move (.c (.bool false)))])
 (.ret))
 (.skip)))
 (.seq (.seq (.region 0 [oP 8 (.move (.c (.int .i64 0)))])
 (.block 0 (.loop (.seq (.seq (.region 0 [oP 48 (.move (.t 8)),
 oP 49 (.fieldAddr 6 (.t 1)),
 oQ 50 (.load false 1 (.t 49)),
 oP 51 (.bin .lss (.t 48) (.t 50))])
 (.cond (.t 51) (.skip)
 (.exit 0)))
 (.seq (.block 1 (.seq (.region 0 [oQ 55 (.load true 8 (.t 1)),
 oP 56 (.move (.t 8)),
 oQ 57 (.call 1 25 [(.t 55), (.t 56)]),
 oP 54 (.move (.t 57)),
 oP 58 (.extract (.t 54) 0),
 oP 59 (.extract (.t 54) 1),
 oP 9 (.move (.t 58)),
 oP 10 (.move (.t 59))])
 (.seq (.region 0 [oP 11 (.move (.c (.int .i64 0)))])
 (.seq (.seq (.region 0 [oQ 60 (.load true 8 (.t 1)),
 oP 61 (.move (.t 4)),
 oP 62 (.move (.t 8)),
 oQ 63 (.call 1 26 [(.t 60), (.t 61), (.t 62)]),
 oP 12 (.move (.t 63))])
 (.seq (.region 0 [oP 64 (.move (.t 12)),
 oP 65 (.bin .geq (.t 64) (.c (.int .i64 0)))])
 (.cond (.t 65) (.region 0 [oP 66 (.fieldAddr 7 (.t 1)),
 oQ 67 (.load false 1 (.t 66)),
 oP 68 (.move (.t 12)),
 oP 69 (.idxSl 3 (.t 67) (.t 68)),
 oP 70 (.fieldAddr 2 (.t 69)),
 oQ 71 (.load false 1 (.t 70)),
 oP 11 (.move (.t 71))])
 (.skip))))
 (.seq (.seq (.region 0 [oP 72 (.move (.t 10)),
 oP 73 (.bin .neq (.t 72) (.c (.int .i64 0))),
 oP 74 (.move (.t 73)),
 oG 75 74 false (.move (.t 9)),
 oG 76 74 false (.bin .lss (.t 75) (.c (.int .i64 0))),
 oP 77 (.pick (.t 74) (.c (.bool true)) (.t 76)),
 oP 78 (.move (.t 77)),
 oG 79 78 false (.move (.t 9)),
 oG 80 78 false (.move (.t 11)),
 oG 81 78 false (.bin .gtr (.t 79) (.t 80)),
 oP 82 (.pick (.t 78) (.c (.bool true)) (.t 81))])
 (.cond (.t 82) (.seq (.region 0 [oP 2 (.move (.c (.bool false)))])
 (.ret))
 (.skip)))
 (.region 0 [oP 83 (.move (.t 6)),
 oP 84 (.move (.t 9)),
 oP 85 (.bin .sub (.t 83) (.t 84)),
 oP 6 (.move (.t 85))]))))))
 (.region 0 [oP 52 (.move (.t 8)),
 oP 53 (.bin .add (.t 52) (.c (.int .i64 1))),
 oP 8 (.move (.t 53))]))))))
 (.seq (.region 0 [oP 86 (.move (.t 6)),
 oP 87 (.bin .eql (.t 86) (.c (.int .i64 0))),
 oP 88 (.move (.t 87)),
 ⟨(some 89), .call 1 15 [], (some (88, true)), none, []⟩,
 oP 90 (.pick (.t 88) (.t 89) (.c (.bool false))),
 oP 2 (.move (.t 90))])
 (.ret))))))))⟩
/-- almadraba/almadrabalaw09.SalesHonest -/
def f5 : AFn := ⟨107, [.tmp 6],
 .seq (.region 0 [oQ 3 (.box (.t 0)),
 oP 6 (.move (.c (.bool false)))])
 (.seq (.seq (.region 0 [oQ 17 (.load true 8 (.t 3)),
 oQ 18 (.call 1 13 [(.t 17)]),
 oP 19 (.un .not (.t 18)),
 oP 20 (.move (.t 19)),
 ⟨(some 21), .load true 8 (.t 3), (some (20, false)), none, []⟩,
 oG 22 20 false (.move (.t 1)),
 ⟨(some 23), .call 1 27 [(.t 21), (.t 22)], (some (20, false)), none, []⟩,
 oG 24 20 false (.un .not (.t 23)),
 oP 25 (.pick (.t 20) (.c (.bool true)) (.t 24)),
 oP 26 (.move (.t 25)),
 oG 27 26 false (.move (.t 2)),
 ⟨(some 28), .call 1 23 [(.t 27), (.c (.int .i64 1)), (.c (.int .i64 99))], (some (26, false)), none, []⟩,
 oG 29 26 false (.un .not (.t 28)),
 oP 30 (.pick (.t 26) (.c (.bool true)) (.t 29))])
 (.cond (.t 30) (.seq (.region 0 [oQ 31 (.call 1 15 []),
 oP 6 (.move (.t 31))])
 (.ret))
 (.skip)))
 (.seq (.region 0 [oQ 33 (.load true 8 (.t 3)),
 oQ 34 (.call 1 17 [(.t 33)]),
 oP 32 (.move (.t 34)),
 oP 35 (.extract (.t 32) 0),
 oP 36 (.extract (.t 32) 1),
 oP 7 (.move (.t 35)),
 oP 8 (.move (.t 36))])
 (.seq (.seq (.region 0 [oP 37 (.move (.t 8)),
 oP 38 (.un .not (.t 37))])
 (.cond (.t 38) (.seq (.region 0 [oP 6 (.move (.c (.bool false)))])
 (.ret))
 (.skip)))
 (.seq (.region 0 [oQ 39 (.load true 8 (.t 3)),
 oP 40 (.move (.t 7)),
 oP 41 (.move (.t 1)),
 oQ 42 (.call 1 26 [(.t 39), (.t 40), (.t 41)]),
 oP 9 (.move (.t 42))])
 (.seq (.seq (.region 0 [oP 43 (.move (.t 9)),
 oP 44 (.bin .lss (.t 43) (.c (.int .i64 0))),
 oP 45 (.move (.t 44)),
 oG 46 45 false (.fieldAddr 7 (.t 3)),
 ⟨(some 47), .load false 1 (.t 46), (some (45, false)), none, []⟩,
 oG 48 45 false (.move (.t 9)),
 oG 49 45 false (.idxSl 3 (.t 47) (.t 48)),
 oG 50 45 false (.fieldAddr 2 (.t 49)),
 ⟨(some 51), .load false 1 (.t 50), (some (45, false)), none, []⟩,
 oG 52 45 false (.move (.t 2)),
 oG 53 45 false (.bin .add (.t 51) (.t 52)),
 oG 54 45 false (.bin .gtr (.t 53) (.c (.int .i64 99))),
 oP 55 (.pick (.t 45) (.c (.bool true)) (.t 54))])
 (.cond (.t 55) (.seq (.region 0 [oQ 56 (.call 1 15 []),
 oP 6 (.move (.t 56))])
 (.ret))
 (.skip)))
 (.seq (.region 1 [⟨(some 57), .load true 8 (.t 3), none, none, [0]⟩,
 oP 58 (.move (.t 9)),
 oP 59 (.fieldAddr 7 (.t 3)),
 ⟨(some 60), .load false 1 (.t 59), none, none, [0]⟩,
 oP 61 (.move (.t 9)),
 oP 62 (.idxSl 3 (.t 60) (.t 61)),
 oP 63 (.fieldAddr 2 (.t 62)),
 ⟨(some 64), .load false 1 (.t 63), none, none, [0]⟩,
 oP 65 (.move (.t 2)),
 oP 66 (.bin .add (.t 64) (.t 65)),
 ⟨(some 67), .call 1 28 [(.t 57), (.t 58), (.t 66)], none, none, [0]⟩,
 ⟨(some 10), .alloc [.nils, .int .i64 0, .nils, .nils, .nils, .int .i64 0, .int .i64 0, .nils], none, (some 0), []⟩,
 ⟨none, .store 8 (.t 10) (.t 67), none, (some 0), []⟩])
 (.seq (.region 0 [oQ 69 (.load true 8 (.t 10)),
 oQ 70 (.call 1 17 [(.t 69)]),
 oP 68 (.move (.t 70)),
 oP 71 (.extract (.t 68) 0),
 oP 72 (.extract (.t 68) 1),
 oP 11 (.move (.t 71)),
 oP 12 (.move (.t 72))])
 (.seq (.region 0 [oQ 74 (.load true 8 (.t 3)),
 oP 75 (.move (.t 1)),
 oQ 76 (.call 1 25 [(.t 74), (.t 75)]),
 oP 73 (.move (.t 76)),
 oP 77 (.extract (.t 73) 0),
 oP 78 (.extract (.t 73) 1),
 oP 13 (.move (.t 77)),
 oP 14 (.move (.t 78))])
 (.seq (.region 0 [oQ 80 (.load true 8 (.t 10)),
 oP 81 (.move (.t 1)),
 oQ 82 (.call 1 25 [(.t 80), (.t 81)]),
 oP 79 (.move (.t 82)),
 oP 83 (.extract (.t 79) 0),
 oP 84 (.extract (.t 79) 1),
 oP 15 (.move (.t 83)),
 oP 16 (.move (.t 84))])
 (.seq (.region 0 [oP 85 (.move (.t 12)),
 oP 86 (.move (.t 85)),
 oG 87 86 true (.move (.t 11)),
 oG 88 86 true (.move (.t 9)),
 ⟨(some 89), .call 1 22 [(.t 87), (.t 88)], (some (86, true)), none, []⟩,
 oP 90 (.pick (.t 86) (.t 89) (.c (.bool false))),
 oP 91 (.move (.t 90)),
 oG 92 91 true (.move (.t 14)),
 oG 93 91 true (.bin .eql (.t 92) (.c (.int .i64 0))),
 oP 94 (.pick (.t 91) (.t 93) (.c (.bool false))),
 oP 95 (.move (.t 94)),
 oG 96 95 true (.move (.t 16)),
 oG 97 95 true (.bin .eql (.t 96) (.c (.int .i64 0))),
 oP 98 (.pick (.t 95) (.t 97) (.c (.bool false))),
 oP 99 (.move (.t 98)),
 oG 100 99 true (.move (.t 13)),
 oG 101 99 true (.move (.t 15)),
 oG 102 99 true (.bin .eql (.t 100) (.t 101)),
 oP 103 (.pick (.t 99) (.t 102) (.c (.bool false))),
 oP 104 (.move (.t 103)),
 ⟨(some 105), .call 1 15 [], (some (104, true)), none, []⟩,
 oP 106 (.pick (.t 104) (.t 105) (.c (.bool false))),
 oP 6 (.move (.t 106))])
 (.ret)))))))))))⟩
/-- almadraba/almadrabalaw09.SalesWithout -/
def f8 : AFn := ⟨113, [.tmp 4],
 .seq (.region 0 [oQ 2 (.box (.t 0)),
 oP 4 (.move (.c (.bool false)))])
 (.seq (.seq (.region 0 [oQ 15 (.load true 8 (.t 2)),
 oQ 16 (.call 1 13 [(.t 15)]),
 oP 17 (.un .not (.t 16)),
 oP 18 (.move (.t 17)),
 ⟨(some 19), .load true 8 (.t 2), (some (18, false)), none, []⟩,
 oG 20 18 false (.move (.t 1)),
 ⟨(some 21), .call 1 27 [(.t 19), (.t 20)], (some (18, false)), none, []⟩,
 oG 22 18 false (.un .not (.t 21)),
 oP 23 (.pick (.t 18) (.c (.bool true)) (.t 22))])
 (.cond (.t 23) (.seq (.region 0 [oQ 24 (.call 1 15 []),
 oP 4 (.move (.t 24))])
 (.ret))
 (.skip)))
 (.seq (.region 0 [oQ 25 (.load true 8 (.t 2)),
 oQ 26 (.call 1 16 [(.t 25)]),
 oP 5 (.move (.t 26))])
 (.seq (.region 0 [oQ 27 (.load true 8 (.t 2)),
 oP 28 (.move (.t 1)),
 oQ 29 (.call 1 36 [(.t 27), (.t 28)]),
 oQ 30 (.call 1 16 [(.t 29)]),
 oP 6 (.move (.t 30))])
 (.seq (.region 0 [oQ 32 (.load true 8 (.t 2)),
 oQ 33 (.call 1 17 [(.t 32)]),
 oP 31 (.move (.t 33)),
 oP 34 (.extract (.t 31) 0),
 oP 35 (.extract (.t 31) 1),
 oP 7 (.move (.t 34)),
 oP 8 (.move (.t 35))])
 (.seq (.region 0 [oQ 37 (.load true 8 (.t 2)),
 oP 38 (.move (.t 1)),
 oQ 39 (.call 1 25 [(.t 37), (.t 38)]),
 oP 36 (.move (.t 39)),
 oP 40 (.extract (.t 36) 0),
 oP 41 (.extract (.t 36) 1),
 oP 9 (.move (.t 40)),
 oP 10 (.move (.t 41))])
 (.seq (.seq (.region 0 [oP 42 (.move (.t 5)),
 oP 43 (.bin .lss (.t 42) (.c (.int .i64 0))),
 oP 44 (.move (.t 43)),
 oG 45 44 false (.move (.t 6)),
 oG 46 44 false (.bin .lss (.t 45) (.c (.int .i64 0))),
 oP 47 (.pick (.t 44) (.c (.bool true)) (.t 46)),
 oP 48 (.move (.t 47)),
 oG 49 48 false (.move (.t 6)),
 oG 50 48 false (.move (.t 5)),
 oG 51 48 false (.bin .gtr (.t 49) (.t 50)),
 oP 52 (.pick (.t 48) (.c (.bool true)) (.t 51)),
 oP 53 (.move (.t 52)),
 oG 54 53 false (.move (.t 8)),
 oG 55 53 false (.un .not (.t 54)),
 oP 56 (.pick (.t 53) (.c (.bool true)) (.t 55)),
 oP 57 (.move (.t 56)),
 oG 58 57 false (.move (.t 10)),
 oG 59 57 false (.bin .neq (.t 58) (.c (.int .i64 0))),
 oP 60 (.pick (.t 57) (.c (.bool true)) (.t 59))])
 (.cond (.t 60) (.seq (.region 0 [oP 4 (.move (.c (.bool false)))])
 (.ret))
 (.skip)))
 (.seq (.region 0 [oP 11 (.move (.c (.int .i64 0)))])
 (.seq (.seq (.region 0 [oP 12 (.move (.c (.int .i64 0)))])
 (.block 0 (.loop (.seq (.seq (.region 0 [oP 61 (.move (.t 12)),
 oP 62 (.fieldAddr 7 (.t 2)),
 oQ 63 (.load false 1 (.t 62)),
 oP 64 (.lenS (.t 63)),
 oP 65 (.bin .lss (.t 61) (.t 64))])
 (.cond (.t 65) (.skip)
 (.exit 0)))
 (.seq (.block 1 (.seq (.region 0 [oP 68 (.fieldAddr 7 (.t 2)),
 oQ 69 (.load false 1 (.t 68)),
 oP 70 (.move (.t 12)),
 oP 71 (.idxSl 3 (.t 69) (.t 70)),
 oP 72 (.fieldAddr 0 (.t 71)),
 oQ 73 (.load false 1 (.t 72)),
 oP 74 (.move (.t 1)),
 oP 75 (.bin .eql (.t 73) (.t 74))])
 (.cond (.t 75) (.region 0 [oP 76 (.move (.t 11)),
 oP 77 (.fieldAddr 7 (.t 2)),
 oQ 78 (.load false 1 (.t 77)),
 oP 79 (.move (.t 12)),
 oP 80 (.idxSl 3 (.t 78) (.t 79)),
 oP 81 (.fieldAddr 2 (.t 80)),
 oQ 82 (.load false 1 (.t 81)),
 oP 83 (.minmax true (.t 76) [(.t 82)]),
 oP 11 (.move (.t 83))])
 (.skip))))
 (.region 0 [oP 66 (.move (.t 12)),
 oP 67 (.bin .add (.t 66) (.c (.int .i64 1))),
 oP 12 (.move (.t 67))]))))))
 (.seq (.region 0 [oP 13 (.move (.c (.int .i64 0)))])
 (.seq (.seq (.region 0 [oQ 84 (.load true 8 (.t 2)),
 oP 85 (.move (.t 7)),
 oP 86 (.move (.t 1)),
 oQ 87 (.call 1 26 [(.t 84), (.t 85), (.t 86)]),
 oP 14 (.move (.t 87))])
 (.seq (.region 0 [oP 88 (.move (.t 14)),
 oP 89 (.bin .geq (.t 88) (.c (.int .i64 0)))])
 (.cond (.t 89) (.region 0 [oP 90 (.fieldAddr 7 (.t 2)),
 oQ 91 (.load false 1 (.t 90)),
 oP 92 (.move (.t 14)),
 oP 93 (.idxSl 3 (.t 91) (.t 92)),
 oP 94 (.fieldAddr 2 (.t 93)),
 oQ 95 (.load false 1 (.t 94)),
 oP 13 (.move (.t 95))])
 (.skip))))
 (.seq (.region 0 [oP 96 (.move (.t 6)),
 oP 97 (.move (.t 5)),
 oP 98 (.move (.t 11)),
 oP 99 (.bin .sub (.t 97) (.t 98)),
 oP 100 (.bin .geq (.t 96) (.t 99)),
 oP 101 (.move (.t 100)),
 oG 102 101 true (.move (.t 9)),
 oG 103 101 true (.move (.t 6)),
 oG 104 101 true (.move (.t 5)),
 oG 105 101 true (.move (.t 13)),
 oG 106 101 true (.bin .sub (.t 104) (.t 105)),
 oG 107 101 true (.bin .sub (.t 103) (.t 106)),
 oG 108 101 true (.bin .eql (.t 102) (.t 107)),
 oP 109 (.pick (.t 101) (.t 108) (.c (.bool false))),
 oP 110 (.move (.t 109)),
 ⟨(some 111), .call 1 15 [], (some (110, true)), none, []⟩,
 oP 112 (.pick (.t 110) (.t 111) (.c (.bool false))),
 oP 4 (.move (.t 112))])
 (.ret))))))))))))⟩
/-- almadraba/almadrabalaw09.ready -/
def f13 : AFn := ⟨11, [.tmp 2],
 .seq (.region 0 [oQ 1 (.box (.t 0)),
 oP 2 (.move (.c (.bool false)))])
 (.seq (.region 0 [oQ 3 (.load true 8 (.t 1)),
 oQ 4 (.call 1 37 [(.t 3)]),
 oP 5 (.un .not (.t 4)),
 oP 6 (.move (.t 5)),
 ⟨(some 7), .load true 8 (.t 1), (some (6, true)), none, []⟩,
 ⟨(some 8), .call 1 39 [(.t 7)], (some (6, true)), none, []⟩,
 oG 9 6 true (.bin .eql (.t 8) (.c (.int .i64 0))),
 oP 10 (.pick (.t 6) (.t 9) (.c (.bool false))),
 oP 2 (.move (.t 10))])
 (.ret))⟩
/-- almadraba/almadrabaref09.IsSale -/
def f14 : AFn := ⟨10, [.tmp 4],
 .seq (.region 0 [oQ 2 (.box (.t 0)),
 oP 4 (.move (.c (.bool false)))])
 (.seq (.region 0 [oQ 5 (.load true 8 (.t 2)),
 oP 6 (.move (.t 1)),
 oQ 7 (.load true 8 (.t 2)),
 oQ 8 (.call 1 59 [(.t 7)]),
 oQ 9 (.call 1 58 [(.t 5), (.t 6), (.t 8)]),
 oP 4 (.move (.t 9))])
 (.ret))⟩
/-- almadraba/almadrabalaw09.works -/
def f15 : AFn := ⟨97, [.tmp 0],
 .seq (.region 0 [oP 0 (.move (.c (.bool false)))])
 (.seq (.region 0 [oQ 16 (.call 1 60 []),
 oP 15 (.move (.t 16)),
 oP 17 (.extract (.t 15) 0),
 oP 18 (.extract (.t 15) 1),
 oQ 1 (.alloc [.nils, .int .i64 0, .nils, .nils, .nils, .int .i64 0, .int .i64 0, .nils]),
 oQ 2 (.alloc [.nils, .int .i64 0, .nils, .nils, .nils, .int .i64 0, .int .i64 0, .nils]),
 ⟨none, .store 8 (.t 1) (.t 17), none, none, []⟩,
 ⟨none, .store 8 (.t 2) (.t 18), none, none, []⟩])
 (.seq (.region 0 [oQ 20 (.load true 8 (.t 2)),
 oQ 21 (.call 1 40 [(.t 20)]),
 oP 19 (.move (.t 21)),
 oP 22 (.extract (.t 19) 0),
 oP 23 (.extract (.t 19) 1),
 oP 3 (.move (.t 22)),
 oP 4 (.move (.t 23))])
 (.seq (.region 0 [oQ 25 (.load true 8 (.t 1)),
 oQ 26 (.call 1 44 [(.t 25)]),
 oP 24 (.move (.t 26)),
 oP 27 (.extract (.t 24) 0),
 oP 28 (.extract (.t 24) 1),
 oP 5 (.move (.t 27)),
 oP 6 (.move (.t 28))])
 (.seq (.region 0 [oQ 30 (.load true 8 (.t 1)),
 oQ 31 (.call 1 46 [(.t 30)]),
 oP 29 (.move (.t 31)),
 oP 32 (.extract (.t 29) 0),
 oP 33 (.extract (.t 29) 1),
 oP 7 (.move (.t 32)),
 oP 8 (.move (.t 33))])
 (.seq (.region 0 [oQ 35 (.load true 8 (.t 1)),
 oQ 36 (.call 1 25 [(.t 35), (.c (.int .i64 1))]),
 oP 34 (.move (.t 36)),
 oP 37 (.extract (.t 34) 0),
 oP 38 (.extract (.t 34) 1),
 oP 9 (.move (.t 37)),
 oP 10 (.move (.t 38))])
 (.seq (.region 0 [oQ 40 (.load true 8 (.t 1)),
 oQ 41 (.call 1 49 [(.t 40), (.c (.int .i64 0))]),
 oP 39 (.move (.t 41)),
 oP 42 (.extract (.t 39) 0),
 oP 43 (.extract (.t 39) 1),
 oP 11 (.move (.t 42)),
 oP 12 (.move (.t 43))])
 (.seq (.region 0 [oQ 45 (.load true 8 (.t 1)),
 oQ 46 (.call 1 55 [(.t 45)]),
 oP 44 (.move (.t 46)),
 oP 47 (.extract (.t 44) 0),
 oP 48 (.extract (.t 44) 1),
 oP 13 (.move (.t 47)),
 oP 14 (.move (.t 48))])
 (.seq (.region 0 [oP 49 (.move (.t 4)),
 oP 50 (.bin .eql (.t 49) (.c (.int .i64 0))),
 oP 51 (.move (.t 50)),
 oG 52 51 true (.move (.t 6)),
 oG 53 51 true (.bin .eql (.t 52) (.c (.int .i64 0))),
 oP 54 (.pick (.t 51) (.t 53) (.c (.bool false))),
 oP 55 (.move (.t 54)),
 oG 56 55 true (.move (.t 8)),
 oG 57 55 true (.bin .eql (.t 56) (.c (.int .i64 0))),
 oP 58 (.pick (.t 55) (.t 57) (.c (.bool false))),
 oP 59 (.move (.t 58)),
 oG 60 59 true (.move (.t 10)),
 oG 61 59 true (.bin .eql (.t 60) (.c (.int .i64 0))),
 oP 62 (.pick (.t 59) (.t 61) (.c (.bool false))),
 oP 63 (.move (.t 62)),
 oG 64 63 true (.move (.t 12)),
 oG 65 63 true (.bin .eql (.t 64) (.c (.int .i64 0))),
 oP 66 (.pick (.t 63) (.t 65) (.c (.bool false))),
 oP 67 (.move (.t 66)),
 oG 68 67 true (.move (.t 14)),
 oG 69 67 true (.bin .eql (.t 68) (.c (.int .i64 0))),
 oP 70 (.pick (.t 67) (.t 69) (.c (.bool false))),
 oP 71 (.move (.t 70)),
 oG 72 71 true (.move (.t 3)),
 ⟨(some 73), .litS 1 1 [.int .i64 0] [(0, (.c (.int .i64 1)))], (some (71, true)), none, []⟩,
 ⟨(some 74), .call 1 35 [(.t 72), (.t 73)], (some (71, true)), none, []⟩,
 oP 75 (.pick (.t 71) (.t 74) (.c (.bool false))),
 oP 76 (.move (.t 75)),
 oG 77 76 true (.move (.t 5)),
 oG 78 76 true (.bin .eql (.t 77) (.c (.int .i64 45))),
 oP 79 (.pick (.t 76) (.t 78) (.c (.bool false))),
 oP 80 (.move (.t 79)),
 oG 81 80 true (.move (.t 7)),
 ⟨(some 82), .litS 1 1 [.int .i64 0] [(0, (.c (.int .i64 1)))], (some (80, true)), none, []⟩,
 ⟨(some 83), .call 1 35 [(.t 81), (.t 82)], (some (80, true)), none, []⟩,
 oP 84 (.pick (.t 80) (.t 83) (.c (.bool false))),
 oP 85 (.move (.t 84)),
 oG 86 85 true (.move (.t 9)),
 oG 87 85 true (.bin .eql (.t 86) (.c (.int .i64 42))),
 oP 88 (.pick (.t 85) (.t 87) (.c (.bool false))),
 oP 89 (.move (.t 88)),
 oG 90 89 true (.move (.t 11)),
 oG 91 89 true (.bin .eql (.t 90) (.c (.int .i64 33))),
 oP 92 (.pick (.t 89) (.t 91) (.c (.bool false))),
 oP 93 (.move (.t 92)),
 oG 94 93 true (.move (.t 13)),
 oG 95 93 true (.bin .eql (.t 94) (.c (.int .i64 10))),
 oP 96 (.pick (.t 93) (.t 95) (.c (.bool false))),
 oP 0 (.move (.t 96))])
 (.ret)))))))))⟩
/-- almadraba/almadrabalaw09.most -/
def f16 : AFn := ⟨21, [.tmp 2],
 .seq (.region 0 [oQ 1 (.box (.t 0)),
 oP 2 (.move (.c (.int .i64 0)))])
 (.seq (.region 0 [oQ 6 (.load true 8 (.t 1)),
 oQ 7 (.call 1 44 [(.t 6)]),
 oP 5 (.move (.t 7)),
 oP 8 (.extract (.t 5) 0),
 oP 9 (.extract (.t 5) 1),
 oP 3 (.move (.t 8)),
 oP 4 (.move (.t 9))])
 (.seq (.seq (.region 0 [oP 10 (.move (.t 4)),
 oP 11 (.bin .neq (.t 10) (.c (.int .i64 0))),
 oP 12 (.move (.t 11)),
 oG 13 12 false (.move (.t 3)),
 oG 14 12 false (.bin .lss (.t 13) (.c (.int .i64 0))),
 oP 15 (.pick (.t 12) (.c (.bool true)) (.t 14)),
 oP 16 (.move (.t 15)),
 oG 17 16 false (.move (.t 3)),
 oG 18 16 false (.bin .geq (.t 17) (.c (.int .i64 1000))),
 oP 19 (.pick (.t 16) (.c (.bool true)) (.t 18))])
 (.cond (.t 19) (.seq (.region 0 [oP 2 (.move (.c (.int .i64 (-1))))])
 (.ret))
 (.skip)))
 (.seq (.region 0 [oP 20 (.move (.t 3)),
 oP 2 (.move (.t 20))])
 (.ret))))⟩
/-- almadraba/almadrabalaw09.winners -/
def f17 : AFn := ⟨27, [.tmp 2, .tmp 3],
 .seq (.region 0 [oQ 1 (.box (.t 0)),
 oP 2 (.move (.c (.nils))),
 oP 3 (.move (.c (.bool false)))])
 (.seq (.region 0 [oQ 7 (.load true 8 (.t 1)),
 oQ 8 (.call 1 46 [(.t 7)]),
 oP 6 (.move (.t 8)),
 oP 9 (.extract (.t 6) 0),
 oP 10 (.extract (.t 6) 1),
 oP 4 (.move (.t 9)),
 oP 5 (.move (.t 10))])
 (.seq (.region 0 [oP 11 (.move (.t 4)),
 oP 12 (.move (.t 5)),
 oP 13 (.bin .eql (.t 12) (.c (.int .i64 0))),
 oP 14 (.move (.t 13)),
 oG 15 14 true (.move (.t 4)),
 oG 16 14 true (.lenS (.t 15)),
 oG 17 14 true (.fieldAddr 7 (.t 1)),
 ⟨(some 18), .load false 1 (.t 17), (some (14, true)), none, []⟩,
 oG 19 14 true (.lenS (.t 18)),
 oG 20 14 true (.bin .leq (.t 16) (.t 19)),
 oP 21 (.pick (.t 14) (.t 20) (.c (.bool false))),
 oP 22 (.move (.t 21)),
 ⟨(some 23), .load true 8 (.t 1), (some (22, true)), none, []⟩,
 oG 24 22 true (.move (.t 4)),
 ⟨(some 25), .call 1 14 [(.t 23), (.t 24)], (some (22, true)), none, []⟩,
 oP 26 (.pick (.t 22) (.t 25) (.c (.bool false))),
 oP 2 (.move (.t 11)),
 oP 3 (.move (.t 26))])
 (.ret)))⟩
/-- almadraba/almadrabaref01.In -/
def f22 : AFn := ⟨18, [.tmp 4],
 .seq (.region 0 [oP 4 (.move (.c (.bool false)))])
 (.seq (.seq (.region 0 [oP 5 (.move (.c (.int .i64 0)))])
 (.block 0 (.loop (.seq (.seq (.region 0 [oP 6 (.move (.t 5)),
 oP 7 (.move (.t 0)),
 oP 8 (.lenS (.t 7)),
 oP 9 (.bin .lss (.t 6) (.t 8))])
 (.cond (.t 9) (.skip)
 (.exit 0)))
 (.seq (.block 1 (.seq (.region 0 [oP 12 (.move (.t 0)),
 oP 13 (.move (.t 5)),
 oP 14 (.idxSl 1 (.t 12) (.t 13)),
 oQ 15 (.load false 1 (.t 14)),
 oP 16 (.move (.t 1)),
 oP 17 (.bin .eql (.t 15) (.t 16))])
 (.cond (.t 17) (.seq (.region 0 [oP 4 (.move (.c (.bool true)))])
 (.ret))
 (.skip))))
 (.region 0 [oP 10 (.move (.t 5)),
 oP 11 (.bin .add (.t 10) (.c (.int .i64 1))),
 oP 5 (.move (.t 11))]))))))
 (.seq (.region 0 [oP 4 (.move (.c (.bool false)))])
 (.ret)))⟩
/-- almadraba/almadrabaref01.Within -/
def f23 : AFn := ⟨15, [.tmp 6],
 .seq (.region 0 [oP 6 (.move (.c (.bool false)))])
 (.seq (.region 0 [oP 7 (.move (.t 1)),
 oP 8 (.move (.t 0)),
 oP 9 (.bin .leq (.t 7) (.t 8)),
 oP 10 (.move (.t 9)),
 oG 11 10 true (.move (.t 0)),
 oG 12 10 true (.move (.t 2)),
 oG 13 10 true (.bin .leq (.t 11) (.t 12)),
 oP 14 (.pick (.t 10) (.t 13) (.c (.bool false))),
 oP 6 (.move (.t 14))])
 (.ret))⟩
/-- almadraba/sales.Paid -/
def f24 : AFn := ⟨27, [.tmp 2, .tmp 3],
 .seq (.region 0 [oQ 1 (.box (.t 0)),
 oP 2 (.move (.c (.int .i64 0))),
 oP 3 (.move (.c (.int .i64 0)))])
 (.seq (.seq (.region 0 [oQ 8 (.load true 8 (.t 1)),
 oQ 9 (.call 1 38 [(.t 8)]),
 oP 4 (.move (.t 9))])
 (.seq (.region 0 [oP 10 (.move (.t 4)),
 oP 11 (.bin .neq (.t 10) (.c (.int .i64 0)))])
 (.cond (.t 11) (.seq (.region 0 [oP 12 (.move (.t 4)),
 oP 2 (.move (.c (.int .i64 0))),
 oP 3 (.move (.t 12))])
 (.ret))
 (.skip))))
 (.seq (.region 0 [oQ 13 (.load true 8 (.t 1)),
 oQ 14 (.call 2 61 [(.t 13)]),
 oQ 5 (.alloc [.nils, .int .i64 0, .nils, .nils, .nils, .int .i64 0, .int .i64 0, .nils, .bool false, .bool false, .bool false, .bool false, .nilm]),
 ⟨none, .store 13 (.t 5) (.t 14), none, none, []⟩])
 (.seq (.region 0 [oP 6 (.move (.c (.int .i64 0)))])
 (.seq (.seq (.region 0 [oP 15 (.fieldAddr 6 (.t 1)),
 oQ 16 (.load false 1 (.t 15)),
 oP 17 (.move (.c (.int .i64 0)))])
 (.block 0 (.loop (.seq (.region 0 [oP 18 (.bin .lss (.t 17) (.t 16))])
 (.seq (.cond (.t 18) (.skip)
 (.exit 0))
 (.seq (.block 1 (.seq (.region 0 [oP 19 (.move (.t 17)),
 oP 7 (.move (.t 19))])
 (.region 0 [oP 20 (.move (.t 6)),
 oQ 21 (.load true 13 (.t 5)),
 oP 22 (.move (.t 7)),
 oQ 23 (.call 3 66 [(.t 21), (.t 22)]),
 oP 24 (.bin .add (.t 20) (.t 23)),
 oP 6 (.move (.t 24))])))
 (.region 0 [oP 25 (.bin .add (.t 17) (.c (.int .i64 1))),
 oP 17 (.move (.t 25))])))))))
 (.seq (.region 0 [oP 26 (.move (.t 6)),
 oP 2 (.move (.t 26)),
 oP 3 (.move (.c (.int .i64 0)))])
 (.ret))))))⟩
/-- almadraba/sales.Pays -/
def f25 : AFn := ⟨20, [.tmp 4, .tmp 5],
 .seq (.region 0 [oQ 2 (.box (.t 0)),
 oP 4 (.move (.c (.int .i64 0))),
 oP 5 (.move (.c (.int .i64 0)))])
 (.seq (.seq (.region 0 [oQ 7 (.load true 8 (.t 2)),
 oQ 8 (.call 1 38 [(.t 7)]),
 oP 6 (.move (.t 8))])
 (.seq (.region 0 [oP 9 (.move (.t 6)),
 oP 10 (.bin .neq (.t 9) (.c (.int .i64 0)))])
 (.cond (.t 10) (.seq (.region 0 [oP 11 (.move (.t 6)),
 oP 4 (.move (.c (.int .i64 0))),
 oP 5 (.move (.t 11))])
 (.ret))
 (.skip))))
 (.seq (.seq (.region 0 [oQ 12 (.load true 8 (.t 2)),
 oP 13 (.move (.t 1)),
 oQ 14 (.call 1 67 [(.t 12), (.t 13)]),
 oP 15 (.un .not (.t 14))])
 (.cond (.t 15) (.seq (.region 0 [oP 4 (.move (.c (.int .i64 0))),
 oP 5 (.move (.c (.int .i64 1)))])
 (.ret))
 (.skip)))
 (.seq (.region 0 [oQ 16 (.load true 8 (.t 2)),
 oQ 17 (.call 2 61 [(.t 16)]),
 oP 18 (.move (.t 1)),
 oQ 19 (.call 3 66 [(.t 17), (.t 18)]),
 oP 4 (.move (.t 19)),
 oP 5 (.move (.c (.int .i64 0)))])
 (.ret))))⟩
/-- almadraba/almadrabalaw09.won -/
def f26 : AFn := ⟨29, [.tmp 6],
 .seq (.region 0 [oQ 3 (.box (.t 0)),
 oP 6 (.move (.c (.int .i64 0)))])
 (.seq (.seq (.region 0 [oP 7 (.move (.c (.int .i64 0)))])
 (.block 0 (.loop (.seq (.seq (.region 0 [oP 8 (.move (.t 7)),
 oP 9 (.move (.t 1)),
 oP 10 (.lenS (.t 9)),
 oP 11 (.bin .lss (.t 8) (.t 10))])
 (.cond (.t 11) (.skip)
 (.exit 0)))
 (.seq (.block 1 (.seq (.region 0 [oP 14 (.fieldAddr 7 (.t 3)),
 oQ 15 (.load false 1 (.t 14)),
 oP 16 (.move (.t 1)),
 oP 17 (.move (.t 7)),
 oP 18 (.idxSl 1 (.t 16) (.t 17)),
 oQ 19 (.load false 1 (.t 18)),
 oP 20 (.idxSl 3 (.t 15) (.t 19)),
 oP 21 (.fieldAddr 0 (.t 20)),
 oQ 22 (.load false 1 (.t 21)),
 oP 23 (.move (.t 2)),
 oP 24 (.bin .eql (.t 22) (.t 23))])
 (.cond (.t 24) (.seq (.region 0 [oP 25 (.move (.t 1)),
 oP 26 (.move (.t 7)),
 oP 27 (.idxSl 1 (.t 25) (.t 26)),
 oQ 28 (.load false 1 (.t 27)),
 oP 6 (.move (.t 28))])
 (.ret))
 (.skip))))
 (.region 0 [oP 12 (.move (.t 7)),
 oP 13 (.bin .add (.t 12) (.c (.int .i64 1))),
 oP 7 (.move (.t 13))]))))))
 (.seq (.region 0 [oP 6 (.move (.c (.int .i64 (-1))))])
 (.ret)))⟩
/-- almadraba/almadrabaref09.IsBuyer -/
def f27 : AFn := ⟨10, [.tmp 4],
 .seq (.region 0 [oQ 2 (.box (.t 0)),
 oP 4 (.move (.c (.bool false)))])
 (.seq (.region 0 [oP 5 (.move (.t 1)),
 oP 6 (.fieldAddr 6 (.t 2)),
 oQ 7 (.load false 1 (.t 6)),
 oP 8 (.bin .sub (.t 7) (.c (.int .i64 1))),
 oQ 9 (.call 1 68 [(.t 5), (.c (.int .i64 0)), (.t 8)]),
 oP 4 (.move (.t 9))])
 (.ret))⟩
/-- almadraba/almadrabaref09.Offered -/
def f28 : AFn := ⟨24, [.cell true 8 6],
 .seq (.region 0 [oQ 3 (.box (.t 0)),
 oQ 6 (.alloc [.nils, .int .i64 0, .nils, .nils, .nils, .int .i64 0, .int .i64 0, .nils])])
 (.seq (.region 0 [oQ 9 (.load true 8 (.t 3)),
 oQ 10 (.call 2 33 [(.t 9)]),
 oQ 7 (.alloc [.nils, .int .i64 0, .nils, .nils, .nils, .int .i64 0, .int .i64 0, .nils]),
 ⟨none, .store 8 (.t 7) (.t 10), none, none, []⟩])
 (.seq (.region 0 [oP 11 (.fieldAddr 7 (.t 7)),
 oQ 12 (.load false 1 (.t 11)),
 oP 13 (.move (.t 1)),
 oP 14 (.idxSl 3 (.t 12) (.t 13)),
 oQ 15 (.load true 3 (.t 14)),
 oQ 8 (.alloc [.int .i64 0, .nils, .int .i64 0]),
 ⟨none, .store 3 (.t 8) (.t 15), none, none, []⟩])
 (.seq (.region 0 [oP 16 (.move (.t 2)),
 oP 17 (.fieldAddr 2 (.t 8)),
 ⟨none, .store 1 (.t 17) (.t 16), none, none, []⟩])
 (.seq (.region 0 [oP 18 (.fieldAddr 7 (.t 7)),
 oQ 19 (.load false 1 (.t 18)),
 oP 20 (.move (.t 1)),
 oQ 21 (.load true 3 (.t 8)),
 oP 22 (.idxSl 3 (.t 19) (.t 20)),
 ⟨none, .store 3 (.t 22) (.t 21), none, none, []⟩])
 (.seq (.region 0 [oQ 23 (.load true 8 (.t 7)),
 ⟨none, .store 8 (.t 6) (.t 23), none, none, []⟩])
 (.ret))))))⟩
/-- almadraba/almadrabaref09.Copy -/
def f33 : AFn := ⟨36, [.cell true 8 2],
 .seq (.region 0 [oQ 1 (.box (.t 0)),
 oQ 2 (.alloc [.nils, .int .i64 0, .nils, .nils, .nils, .int .i64 0, .int .i64 0, .nils])])
 (.seq (.region 3 [oP 5 (.fieldAddr 0 (.t 1)),
 ⟨(some 6), .load true 4 (.t 5), none, none, [0, 1, 2]⟩,
 ⟨(some 7), .call 1 72 [(.t 6)], none, none, [0, 1, 2]⟩,
 ⟨(some 8), .buildSlice 1 0 [.int .i64 0] [], none, (some 0), []⟩,
 oP 9 (.fieldAddr 4 (.t 1)),
 ⟨(some 10), .load false 1 (.t 9), none, none, [0, 1, 2]⟩,
 ⟨(some 11), .append true 1 8 (.t 8) (.t 10), none, (some 1), [2]⟩,
 oP 12 (.fieldAddr 5 (.t 1)),
 ⟨(some 13), .load false 1 (.t 12), none, none, [0, 1, 2]⟩,
 oP 14 (.fieldAddr 6 (.t 1)),
 ⟨(some 15), .load false 1 (.t 14), none, none, [0, 1, 2]⟩,
 oP 16 (.build [.nils, .int .i64 0, .nils, .nils, .nils, .int .i64 0, .int .i64 0, .nils] [(0, 4, (.t 7)), (4, 1, (.t 11)), (5, 1, (.t 13)), (6, 1, (.t 15))]),
 ⟨(some 3), .alloc [.nils, .int .i64 0, .nils, .nils, .nils, .int .i64 0, .int .i64 0, .nils], none, (some 2), []⟩,
 ⟨none, .store 8 (.t 3) (.t 16), none, (some 2), []⟩])
 (.seq (.seq (.region 0 [oP 4 (.move (.c (.int .i64 0)))])
 (.block 0 (.loop (.seq (.seq (.region 0 [oP 17 (.move (.t 4)),
 oP 18 (.fieldAddr 7 (.t 1)),
 oQ 19 (.load false 1 (.t 18)),
 oP 20 (.lenS (.t 19)),
 oP 21 (.bin .lss (.t 17) (.t 20))])
 (.cond (.t 21) (.skip)
 (.exit 0)))
 (.seq (.block 1 (.region 1 [oP 24 (.fieldAddr 7 (.t 3)),
 ⟨(some 25), .load false 1 (.t 24), none, none, [0]⟩,
 oP 26 (.fieldAddr 7 (.t 1)),
 ⟨(some 27), .load false 1 (.t 26), none, none, [0]⟩,
 oP 28 (.move (.t 4)),
 oP 29 (.idxSl 3 (.t 27) (.t 28)),
 ⟨(some 30), .load true 3 (.t 29), none, none, [0]⟩,
 ⟨(some 31), .call 1 34 [(.t 30)], none, none, [0]⟩,
 oQ 32 (.litS 3 1 [.int .i64 0, .nils, .int .i64 0] [(0, (.t 31))]),
 ⟨(some 33), .append false 3 40 (.t 25) (.t 32), none, (some 0), []⟩,
 oP 34 (.fieldAddr 7 (.t 3)),
 ⟨none, .store 1 (.t 34) (.t 33), none, none, []⟩]))
 (.region 0 [oP 22 (.move (.t 4)),
 oP 23 (.bin .add (.t 22) (.c (.int .i64 1))),
 oP 4 (.move (.t 23))]))))))
 (.seq (.region 0 [oQ 35 (.load true 8 (.t 3)),
 ⟨none, .store 8 (.t 2) (.t 35), none, none, []⟩])
 (.ret))))⟩
/-- almadraba/almadrabaref09.CopyBid -/
def f34 : AFn := ⟨12, [.cell true 3 2],
 .seq (.region 0 [oQ 1 (.box (.t 0)),
 oQ 2 (.alloc [.int .i64 0, .nils, .int .i64 0])])
 (.seq (.region 2 [oP 3 (.fieldAddr 0 (.t 1)),
 ⟨(some 4), .load false 1 (.t 3), none, none, [0, 1]⟩,
 ⟨(some 5), .buildSlice 1 0 [.int .i64 0] [], none, (some 0), []⟩,
 oP 6 (.fieldAddr 1 (.t 1)),
 ⟨(some 7), .load false 1 (.t 6), none, none, [0, 1]⟩,
 ⟨(some 8), .append true 1 8 (.t 5) (.t 7), none, (some 1), []⟩,
 oP 9 (.fieldAddr 2 (.t 1)),
 ⟨(some 10), .load false 1 (.t 9), none, none, [0, 1]⟩,
 oP 11 (.build [.int .i64 0, .nils, .int .i64 0] [(0, 1, (.t 4)), (1, 1, (.t 8)), (2, 1, (.t 10))]),
 ⟨none, .store 3 (.t 2) (.t 11), none, none, []⟩])
 (.ret))⟩
/-- almadraba/almadrabaref01.SameInts -/
def f35 : AFn := ⟨26, [.tmp 4],
 .seq (.region 0 [oP 4 (.move (.c (.bool false)))])
 (.seq (.seq (.region 0 [oP 6 (.move (.t 0)),
 oP 7 (.lenS (.t 6)),
 oP 8 (.move (.t 1)),
 oP 9 (.lenS (.t 8)),
 oP 10 (.bin .neq (.t 7) (.t 9))])
 (.cond (.t 10) (.seq (.region 0 [oP 4 (.move (.c (.bool false)))])
 (.ret))
 (.skip)))
 (.seq (.seq (.region 0 [oP 5 (.move (.c (.int .i64 0)))])
 (.block 0 (.loop (.seq (.seq (.region 0 [oP 11 (.move (.t 5)),
 oP 12 (.move (.t 0)),
 oP 13 (.lenS (.t 12)),
 oP 14 (.bin .lss (.t 11) (.t 13))])
 (.cond (.t 14) (.skip)
 (.exit 0)))
 (.seq (.block 1 (.seq (.region 0 [oP 17 (.move (.t 0)),
 oP 18 (.move (.t 5)),
 oP 19 (.idxSl 1 (.t 17) (.t 18)),
 oQ 20 (.load false 1 (.t 19)),
 oP 21 (.move (.t 1)),
 oP 22 (.move (.t 5)),
 oP 23 (.idxSl 1 (.t 21) (.t 22)),
 oQ 24 (.load false 1 (.t 23)),
 oP 25 (.bin .neq (.t 20) (.t 24))])
 (.cond (.t 25) (.seq (.region 0 [oP 4 (.move (.c (.bool false)))])
 (.ret))
 (.skip))))
 (.region 0 [oP 15 (.move (.t 5)),
 oP 16 (.bin .add (.t 15) (.c (.int .i64 1))),
 oP 5 (.move (.t 16))]))))))
 (.seq (.region 0 [oP 4 (.move (.c (.bool true)))])
 (.ret))))⟩
/-- almadraba/almadrabaref09.Without -/
def f36 : AFn := ⟨36, [.cell true 8 4],
 .seq (.region 0 [oQ 2 (.box (.t 0)),
 oQ 4 (.alloc [.nils, .int .i64 0, .nils, .nils, .nils, .int .i64 0, .int .i64 0, .nils])])
 (.seq (.region 0 [oQ 7 (.load true 8 (.t 2)),
 oQ 8 (.call 1 33 [(.t 7)]),
 oQ 5 (.alloc [.nils, .int .i64 0, .nils, .nils, .nils, .int .i64 0, .int .i64 0, .nils]),
 ⟨none, .store 8 (.t 5) (.t 8), none, none, []⟩])
 (.seq (.region 0 [oP 9 (.fieldAddr 7 (.t 5)),
 ⟨none, .store 1 (.t 9) (.c (.nils)), none, none, []⟩])
 (.seq (.seq (.region 0 [oP 6 (.move (.c (.int .i64 0)))])
 (.block 0 (.loop (.seq (.seq (.region 0 [oP 10 (.move (.t 6)),
 oP 11 (.fieldAddr 7 (.t 2)),
 oQ 12 (.load false 1 (.t 11)),
 oP 13 (.lenS (.t 12)),
 oP 14 (.bin .lss (.t 10) (.t 13))])
 (.cond (.t 14) (.skip)
 (.exit 0)))
 (.seq (.block 1 (.seq (.region 0 [oP 17 (.fieldAddr 7 (.t 2)),
 oQ 18 (.load false 1 (.t 17)),
 oP 19 (.move (.t 6)),
 oP 20 (.idxSl 3 (.t 18) (.t 19)),
 oP 21 (.fieldAddr 0 (.t 20)),
 oQ 22 (.load false 1 (.t 21)),
 oP 23 (.move (.t 1)),
 oP 24 (.bin .neq (.t 22) (.t 23))])
 (.cond (.t 24) (.region 1 [oP 25 (.fieldAddr 7 (.t 5)),
 ⟨(some 26), .load false 1 (.t 25), none, none, [0]⟩,
 oP 27 (.fieldAddr 7 (.t 2)),
 ⟨(some 28), .load false 1 (.t 27), none, none, [0]⟩,
 oP 29 (.move (.t 6)),
 oP 30 (.idxSl 3 (.t 28) (.t 29)),
 ⟨(some 31), .load true 3 (.t 30), none, none, [0]⟩,
 oQ 32 (.litS 3 1 [.int .i64 0, .nils, .int .i64 0] [(0, (.t 31))]),
 ⟨(some 33), .append false 3 40 (.t 26) (.t 32), none, (some 0), []⟩,
 oP 34 (.fieldAddr 7 (.t 5)),
 ⟨none, .store 1 (.t 34) (.t 33), none, none, []⟩])
 (.skip))))
 (.region 0 [oP 15 (.move (.t 6)),
 oP 16 (.bin .add (.t 15) (.c (.int .i64 1))),
 oP 6 (.move (.t 16))]))))))
 (.seq (.region 0 [oQ 35 (.load true 8 (.t 5)),
 ⟨none, .store 8 (.t 4) (.t 35), none, none, []⟩])
 (.ret)))))⟩
/-- almadraba/almadrabalaw09.Huge -/
def f37 : AFn := ⟨34, [.tmp 2],
 .seq (.region 0 [oQ 1 (.box (.t 0)),
 oP 2 (.move (.c (.bool false)))])
 (.seq (.seq (.region 0 [oP 4 (.fieldAddr 0 (.t 1)),
 oQ 5 (.load true 4 (.t 4)),
 oQ 6 (.call 1 73 [(.t 5)]),
 oP 7 (.move (.t 6)),
 oG 8 7 false (.fieldAddr 4 (.t 1)),
 ⟨(some 9), .load false 1 (.t 8), (some (7, false)), none, []⟩,
 oG 10 7 false (.lenS (.t 9)),
 oG 11 7 false (.bin .gtr (.t 10) (.c (.int .i64 40))),
 oP 12 (.pick (.t 7) (.c (.bool true)) (.t 11)),
 oP 13 (.move (.t 12)),
 oG 14 13 false (.fieldAddr 7 (.t 1)),
 ⟨(some 15), .load false 1 (.t 14), (some (13, false)), none, []⟩,
 oG 16 13 false (.lenS (.t 15)),
 oG 17 13 false (.bin .gtr (.t 16) (.c (.int .i64 40))),
 oP 18 (.pick (.t 13) (.c (.bool true)) (.t 17))])
 (.cond (.t 18) (.seq (.region 0 [oP 2 (.move (.c (.bool true)))])
 (.ret))
 (.skip)))
 (.seq (.seq (.region 0 [oP 3 (.move (.c (.int .i64 0)))])
 (.block 0 (.loop (.seq (.seq (.region 0 [oP 19 (.move (.t 3)),
 oP 20 (.fieldAddr 7 (.t 1)),
 oQ 21 (.load false 1 (.t 20)),
 oP 22 (.lenS (.t 21)),
 oP 23 (.bin .lss (.t 19) (.t 22))])
 (.cond (.t 23) (.skip)
 (.exit 0)))
 (.seq (.block 1 (.seq (.region 0 [oP 26 (.fieldAddr 7 (.t 1)),
 oQ 27 (.load false 1 (.t 26)),
 oP 28 (.move (.t 3)),
 oP 29 (.idxSl 3 (.t 27) (.t 28)),
 oP 30 (.fieldAddr 1 (.t 29)),
 oQ 31 (.load false 1 (.t 30)),
 oP 32 (.lenS (.t 31)),
 oP 33 (.bin .gtr (.t 32) (.c (.int .i64 40)))])
 (.cond (.t 33) (.seq (.region 0 [oP 2 (.move (.c (.bool true)))])
 (.ret))
 (.skip))))
 (.region 0 [oP 24 (.move (.t 3)),
 oP 25 (.bin .add (.t 24) (.c (.int .i64 1))),
 oP 3 (.move (.t 25))]))))))
 (.seq (.region 0 [oP 2 (.move (.c (.bool false)))])
 (.ret))))⟩
/-- almadraba/sales.Check -/
def f38 : AFn := ⟨6, [.tmp 2],
 .seq (.region 0 [oQ 1 (.box (.t 0)),
 oP 2 (.move (.c (.int .i64 0)))])
 (.seq (.seq (.region 0 [oQ 3 (.load true 8 (.t 1)),
 oQ 4 (.call 1 74 [(.t 3)]),
 oP 5 (.un .not (.t 4))])
 (.cond (.t 5) (.seq (.region 0 [oP 2 (.move (.c (.int .i64 90)))])
 (.ret))
 (.skip)))
 (.seq (.region 0 [oP 2 (.move (.c (.int .i64 0)))])
 (.ret)))⟩
/-- almadraba/almadrabaref09.Check -/
def f39 : AFn := ⟨73, [.tmp 2],
 .seq (.region 0 [oQ 1 (.box (.t 0)),
 oP 2 (.move (.c (.int .i64 0)))])
 (.seq (.seq (.region 0 [oP 5 (.fieldAddr 0 (.t 1)),
 oQ 6 (.load true 4 (.t 5)),
 oQ 7 (.call 1 75 [(.t 6)]),
 oP 8 (.bin .neq (.t 7) (.c (.int .i64 0))),
 oP 9 (.move (.t 8)),
 oG 10 9 false (.fieldAddr 0 (.t 1)),
 ⟨(some 11), .load true 4 (.t 10), (some (9, false)), none, []⟩,
 oG 12 9 false (.fieldAddr 4 (.t 1)),
 ⟨(some 13), .load false 1 (.t 12), (some (9, false)), none, []⟩,
 ⟨(some 14), .call 1 70 [(.t 11), (.t 13)], (some (9, false)), none, []⟩,
 oG 15 9 false (.un .not (.t 14)),
 oP 16 (.pick (.t 9) (.c (.bool true)) (.t 15))])
 (.cond (.t 16) (.seq (.region 0 [oP 2 (.move (.c (.int .i64 90)))])
 (.ret))
 (.skip)))
 (.seq (.seq (.region 0 [oP 17 (.fieldAddr 5 (.t 1)),
 oQ 18 (.load false 1 (.t 17)),
 oQ 19 (.call 1 68 [(.t 18), (.c (.int .i64 0)), (.c (.int .i64 20))]),
 oP 20 (.un .not (.t 19)),
 oP 21 (.move (.t 20)),
 oG 22 21 false (.fieldAddr 6 (.t 1)),
 ⟨(some 23), .load false 1 (.t 22), (some (21, false)), none, []⟩,
 ⟨(some 24), .call 1 68 [(.t 23), (.c (.int .i64 0)), (.c (.int .i64 4))], (some (21, false)), none, []⟩,
 oG 25 21 false (.un .not (.t 24)),
 oP 26 (.pick (.t 21) (.c (.bool true)) (.t 25)),
 oP 27 (.move (.t 26)),
 oG 28 27 false (.fieldAddr 7 (.t 1)),
 ⟨(some 29), .load false 1 (.t 28), (some (27, false)), none, []⟩,
 oG 30 27 false (.lenS (.t 29)),
 oG 31 27 false (.bin .gtr (.t 30) (.c (.int .i64 8))),
 oP 32 (.pick (.t 27) (.c (.bool true)) (.t 31))])
 (.cond (.t 32) (.seq (.region 0 [oP 2 (.move (.c (.int .i64 90)))])
 (.ret))
 (.skip)))
 (.seq (.seq (.region 0 [oP 3 (.move (.c (.int .i64 0)))])
 (.block 0 (.loop (.seq (.seq (.region 0 [oP 33 (.move (.t 3)),
 oP 34 (.fieldAddr 7 (.t 1)),
 oQ 35 (.load false 1 (.t 34)),
 oP 36 (.lenS (.t 35)),
 oP 37 (.bin .lss (.t 33) (.t 36))])
 (.cond (.t 37) (.skip)
 (.exit 0)))
 (.seq (.block 1 (.seq (.region 0 [oP 40 (.fieldAddr 7 (.t 1)),
 oQ 41 (.load false 1 (.t 40)),
 oP 42 (.move (.t 3)),
 oP 43 (.idxSl 3 (.t 41) (.t 42)),
 oQ 44 (.load true 3 (.t 43)),
 oQ 4 (.alloc [.int .i64 0, .nils, .int .i64 0]),
 ⟨none, .store 3 (.t 4) (.t 44), none, none, []⟩])
 (.seq (.region 0 [oQ 45 (.load true 8 (.t 1)),
 oP 46 (.fieldAddr 0 (.t 4)),
 oQ 47 (.load false 1 (.t 46)),
 oQ 48 (.call 1 27 [(.t 45), (.t 47)]),
 oP 49 (.un .not (.t 48)),
 oP 50 (.move (.t 49)),
 oG 51 50 false (.fieldAddr 1 (.t 4)),
 ⟨(some 52), .load false 1 (.t 51), (some (50, false)), none, []⟩,
 oG 53 50 false (.lenS (.t 52)),
 oG 54 50 false (.bin .eql (.t 53) (.c (.int .i64 0))),
 oP 55 (.pick (.t 50) (.c (.bool true)) (.t 54)),
 oP 56 (.move (.t 55)),
 oG 57 56 false (.fieldAddr 1 (.t 4)),
 ⟨(some 58), .load false 1 (.t 57), (some (56, false)), none, []⟩,
 oG 59 56 false (.fieldAddr 0 (.t 1)),
 oG 60 56 false (.fieldAddr 3 (.t 59)),
 ⟨(some 61), .load false 1 (.t 60), (some (56, false)), none, []⟩,
 oG 62 56 false (.lenS (.t 61)),
 oG 63 56 false (.bin .sub (.t 62) (.c (.int .i64 1))),
 ⟨(some 64), .call 1 76 [(.t 58), (.c (.int .i64 0)), (.t 63)], (some (56, false)), none, []⟩,
 oG 65 56 false (.un .not (.t 64)),
 oP 66 (.pick (.t 56) (.c (.bool true)) (.t 65)),
 oP 67 (.move (.t 66)),
 oG 68 67 false (.fieldAddr 2 (.t 4)),
 ⟨(some 69), .load false 1 (.t 68), (some (67, false)), none, []⟩,
 ⟨(some 70), .call 1 68 [(.t 69), (.c (.int .i64 0)), (.c (.int .i64 99))], (some (67, false)), none, []⟩,
 oG 71 67 false (.un .not (.t 70)),
 oP 72 (.pick (.t 67) (.c (.bool true)) (.t 71))])
 (.cond (.t 72) (.seq (.region 0 [oP 2 (.move (.c (.int .i64 90)))])
 (.ret))
 (.skip)))))
 (.region 0 [oP 38 (.move (.t 3)),
 oP 39 (.bin .add (.t 38) (.c (.int .i64 1))),
 oP 3 (.move (.t 39))]))))))
 (.seq (.region 0 [oP 2 (.move (.c (.int .i64 0)))])
 (.ret)))))⟩
/-- almadraba/sales.Ready -/
def f40 : AFn := ⟨13, [.tmp 2, .tmp 3],
 .seq (.region 0 [oQ 1 (.box (.t 0)),
 oP 2 (.move (.c (.nils))),
 oP 3 (.move (.c (.int .i64 0)))])
 (.seq (.seq (.region 0 [oQ 5 (.load true 8 (.t 1)),
 oQ 6 (.call 1 38 [(.t 5)]),
 oP 4 (.move (.t 6))])
 (.seq (.region 0 [oP 7 (.move (.t 4)),
 oP 8 (.bin .neq (.t 7) (.c (.int .i64 0)))])
 (.cond (.t 8) (.seq (.region 0 [oP 9 (.move (.t 4)),
 oP 2 (.move (.c (.nils))),
 oP 3 (.move (.t 9))])
 (.ret))
 (.skip))))
 (.seq (.region 0 [oQ 10 (.load true 8 (.t 1)),
 oQ 11 (.call 2 61 [(.t 10)]),
 oQ 12 (.call 0 77 [(.t 11)]),
 oP 2 (.move (.t 12)),
 oP 3 (.move (.c (.int .i64 0)))])
 (.ret)))⟩
/-- almadraba/sales.Most -/
def f44 : AFn := ⟨13, [.tmp 2, .tmp 3],
 .seq (.region 0 [oQ 1 (.box (.t 0)),
 oP 2 (.move (.c (.int .i64 0))),
 oP 3 (.move (.c (.int .i64 0)))])
 (.seq (.seq (.region 0 [oQ 5 (.load true 8 (.t 1)),
 oQ 6 (.call 1 38 [(.t 5)]),
 oP 4 (.move (.t 6))])
 (.seq (.region 0 [oP 7 (.move (.t 4)),
 oP 8 (.bin .neq (.t 7) (.c (.int .i64 0)))])
 (.cond (.t 8) (.seq (.region 0 [oP 9 (.move (.t 4)),
 oP 2 (.move (.c (.int .i64 0))),
 oP 3 (.move (.t 9))])
 (.ret))
 (.skip))))
 (.seq (.region 0 [oQ 10 (.load true 8 (.t 1)),
 oQ 11 (.call 2 61 [(.t 10)]),
 oQ 12 (.call 0 79 [(.t 11)]),
 oP 2 (.move (.t 12)),
 oP 3 (.move (.c (.int .i64 0)))])
 (.ret)))⟩
/-- almadraba/sales.Winners -/
def f46 : AFn := ⟨19, [.tmp 2, .tmp 3],
 .seq (.region 0 [oQ 1 (.box (.t 0)),
 oP 2 (.move (.c (.nils))),
 oP 3 (.move (.c (.int .i64 0)))])
 (.seq (.seq (.region 0 [oQ 7 (.load true 8 (.t 1)),
 oQ 8 (.call 1 38 [(.t 7)]),
 oP 4 (.move (.t 8))])
 (.seq (.region 0 [oP 9 (.move (.t 4)),
 oP 10 (.bin .neq (.t 9) (.c (.int .i64 0)))])
 (.cond (.t 10) (.seq (.region 0 [oP 11 (.move (.t 4)),
 oP 2 (.move (.c (.nils))),
 oP 3 (.move (.t 11))])
 (.ret))
 (.skip))))
 (.seq (.region 0 [oQ 13 (.load true 8 (.t 1)),
 oQ 14 (.call 2 61 [(.t 13)]),
 oQ 15 (.call 3 81 [(.t 14), (.c (.fn 82 [] []))]),
 oP 12 (.move (.t 15)),
 oP 16 (.extract (.t 12) 0),
 oP 17 (.extract (.t 12) 1),
 oP 5 (.move (.t 16)),
 oP 6 (.move (.t 17))])
 (.seq (.region 0 [oP 18 (.move (.t 5)),
 oP 2 (.move (.t 18)),
 oP 3 (.move (.c (.int .i64 0)))])
 (.ret))))⟩
/-- almadraba/sales.Need -/
def f49 : AFn := ⟨19, [.tmp 4, .tmp 5],
 .seq (.region 0 [oQ 2 (.box (.t 0)),
 oP 4 (.move (.c (.int .i64 0))),
 oP 5 (.move (.c (.int .i64 0)))])
 (.seq (.seq (.region 0 [oQ 7 (.load true 8 (.t 2)),
 oP 8 (.move (.t 1)),
 oQ 9 (.call 1 63 [(.t 7), (.t 8)]),
 oP 6 (.move (.t 9))])
 (.seq (.region 0 [oP 10 (.move (.t 6)),
 oP 11 (.bin .neq (.t 10) (.c (.int .i64 0)))])
 (.cond (.t 11) (.seq (.region 0 [oP 12 (.move (.t 6)),
 oP 4 (.move (.c (.int .i64 0))),
 oP 5 (.move (.t 12))])
 (.ret))
 (.skip))))
 (.seq (.region 0 [oQ 13 (.load true 8 (.t 2)),
 oQ 14 (.call 2 61 [(.t 13)]),
 oP 15 (.move (.t 1)),
 oQ 16 (.call 3 88 [(.t 14), (.t 15)]),
 oP 17 (.extract (.t 16) 0),
 oP 18 (.extract (.t 16) 1),
 oP 4 (.move (.t 17)),
 oP 5 (.move (.t 18))])
 (.ret)))⟩
/-- almadraba/sales.When -/
def f55 : AFn := ⟨13, [.tmp 2, .tmp 3],
 .seq (.region 0 [oQ 1 (.box (.t 0)),
 oP 2 (.move (.c (.int .i64 0))),
 oP 3 (.move (.c (.int .i64 0)))])
 (.seq (.seq (.region 0 [oQ 5 (.load true 8 (.t 1)),
 oQ 6 (.call 1 38 [(.t 5)]),
 oP 4 (.move (.t 6))])
 (.seq (.region 0 [oP 7 (.move (.t 4)),
 oP 8 (.bin .neq (.t 7) (.c (.int .i64 0)))])
 (.cond (.t 8) (.seq (.region 0 [oP 9 (.move (.t 4)),
 oP 2 (.move (.c (.int .i64 0))),
 oP 3 (.move (.t 9))])
 (.ret))
 (.skip))))
 (.seq (.region 0 [oQ 10 (.load true 8 (.t 1)),
 oQ 11 (.call 2 61 [(.t 10)]),
 oQ 12 (.call 0 94 [(.t 11)]),
 oP 2 (.move (.t 12)),
 oP 3 (.move (.c (.int .i64 0)))])
 (.ret)))⟩
/-- almadraba/almadrabaref09.isSale -/
def f58 : AFn := ⟨63, [.tmp 6],
 .seq (.region 0 [oQ 3 (.box (.t 0)),
 oP 6 (.move (.c (.bool false)))])
 (.seq (.seq (.region 0 [oP 11 (.move (.t 1)),
 oP 12 (.fieldAddr 7 (.t 3)),
 oQ 13 (.load false 1 (.t 12)),
 oP 14 (.lenS (.t 13)),
 oP 15 (.bin .sub (.t 14) (.c (.int .i64 1))),
 oQ 16 (.call 1 76 [(.t 11), (.c (.int .i64 0)), (.t 15)]),
 oP 17 (.un .not (.t 16))])
 (.cond (.t 17) (.seq (.region 0 [oP 6 (.move (.c (.bool false)))])
 (.ret))
 (.skip)))
 (.seq (.seq (.region 0 [oP 7 (.move (.c (.int .i64 0)))])
 (.block 0 (.loop (.seq (.seq (.region 0 [oP 18 (.move (.t 7)),
 oP 19 (.move (.t 1)),
 oP 20 (.lenS (.t 19)),
 oP 21 (.bin .lss (.t 18) (.t 20))])
 (.cond (.t 21) (.skip)
 (.exit 0)))
 (.seq (.block 1 (.seq (.region 1 [oP 24 (.fieldAddr 7 (.t 3)),
 ⟨(some 25), .load false 1 (.t 24), none, none, [0]⟩,
 oP 26 (.move (.t 1)),
 oP 27 (.move (.t 7)),
 oP 28 (.idxSl 1 (.t 26) (.t 27)),
 ⟨(some 29), .load false 1 (.t 28), none, none, [0]⟩,
 oP 30 (.idxSl 3 (.t 25) (.t 29)),
 ⟨(some 31), .load true 3 (.t 30), none, none, [0]⟩,
 ⟨(some 8), .alloc [.int .i64 0, .nils, .int .i64 0], none, (some 0), []⟩,
 ⟨none, .store 3 (.t 8) (.t 31), none, (some 0), []⟩])
 (.seq (.seq (.region 0 [oP 9 (.move (.c (.int .i64 0)))])
 (.block 2 (.loop (.seq (.seq (.region 0 [oP 32 (.move (.t 9)),
 oP 33 (.fieldAddr 1 (.t 8)),
 oQ 34 (.load false 1 (.t 33)),
 oP 35 (.lenS (.t 34)),
 oP 36 (.bin .lss (.t 32) (.t 35))])
 (.cond (.t 36) (.skip)
 (.exit 2)))
 (.seq (.block 3 (.seq (.region 0 [oP 39 (.move (.t 2)),
 oP 40 (.fieldAddr 1 (.t 8)),
 oQ 41 (.load false 1 (.t 40)),
 oP 42 (.move (.t 9)),
 oP 43 (.idxSl 1 (.t 41) (.t 42)),
 oQ 44 (.load false 1 (.t 43)),
 oQ 45 (.call 1 22 [(.t 39), (.t 44)]),
 oP 46 (.un .not (.t 45))])
 (.cond (.t 46) (.seq (.region 0 [oP 6 (.move (.c (.bool false)))])
 (.ret))
 (.skip))))
 (.region 0 [oP 37 (.move (.t 9)),
 oP 38 (.bin .add (.t 37) (.c (.int .i64 1))),
 oP 9 (.move (.t 38))]))))))
 (.seq (.region 0 [oP 10 (.move (.c (.int .i64 0)))])
 (.block 4 (.loop (.seq (.seq (.region 0 [oP 47 (.move (.t 10)),
 oP 48 (.move (.t 7)),
 oP 49 (.bin .lss (.t 47) (.t 48))])
 (.cond (.t 49) (.skip)
 (.exit 4)))
 (.seq (.block 5 (.seq (.region 0 [oP 52 (.fieldAddr 7 (.t 3)),
 oQ 53 (.load false 1 (.t 52)),
 oP 54 (.move (.t 1)),
 oP 55 (.move (.t 10)),
 oP 56 (.idxSl 1 (.t 54) (.t 55)),
 oQ 57 (.load false 1 (.t 56)),
 oP 58 (.idxSl 3 (.t 53) (.t 57)),
 oQ 59 (.load true 3 (.t 58)),
 oQ 60 (.load true 3 (.t 8)),
 oQ 61 (.call 1 96 [(.t 59), (.t 60)]),
 oP 62 (.un .not (.t 61))])
 (.cond (.t 62) (.seq (.region 0 [oP 6 (.move (.c (.bool false)))])
 (.ret))
 (.skip))))
 (.region 0 [oP 50 (.move (.t 10)),
 oP 51 (.bin .add (.t 50) (.c (.int .i64 1))),
 oP 10 (.move (.t 51))])))))))))
 (.region 0 [oP 22 (.move (.t 7)),
 oP 23 (.bin .add (.t 22) (.c (.int .i64 1))),
 oP 7 (.move (.t 23))]))))))
 (.seq (.region 0 [oP 6 (.move (.c (.bool true)))])
 (.ret))))⟩
/-- almadraba/almadrabaref09.ReadyOf -/
def f59 : AFn := ⟨35, [.tmp 2],
 .seq (.region 0 [oQ 1 (.box (.t 0)),
 oP 2 (.move (.c (.nils)))])
 (.seq (.region 0 [oP 3 (.move (.c (.nils)))])
 (.seq (.seq (.region 0 [oP 4 (.move (.c (.int .i64 0)))])
 (.block 0 (.loop (.seq (.seq (.region 0 [oP 6 (.move (.t 4)),
 oP 7 (.fieldAddr 0 (.t 1)),
 oP 8 (.fieldAddr 3 (.t 7)),
 oQ 9 (.load false 1 (.t 8)),
 oP 10 (.lenS (.t 9)),
 oP 11 (.bin .lss (.t 6) (.t 10))])
 (.cond (.t 11) (.skip)
 (.exit 0)))
 (.seq (.block 1 (.seq (.region 0 [oP 14 (.fieldAddr 4 (.t 1)),
 oQ 15 (.load false 1 (.t 14)),
 oP 16 (.move (.t 4)),
 oQ 17 (.call 1 97 [(.t 15), (.t 16)]),
 oP 5 (.move (.t 17))])
 (.seq (.region 0 [oP 18 (.move (.t 5)),
 oP 19 (.lenS (.t 18)),
 oP 20 (.bin .gtr (.t 19) (.c (.int .i64 0))),
 oP 21 (.move (.t 20)),
 oG 22 21 true (.fieldAddr 0 (.t 1)),
 ⟨(some 23), .load true 4 (.t 22), (some (21, true)), none, []⟩,
 oG 24 21 true (.move (.t 5)),
 ⟨(some 25), .call 1 98 [(.t 23), (.t 24)], (some (21, true)), none, []⟩,
 oG 26 21 true (.fieldAddr 5 (.t 1)),
 ⟨(some 27), .load false 1 (.t 26), (some (21, true)), none, []⟩,
 oG 28 21 true (.bin .leq (.t 25) (.t 27)),
 oP 29 (.pick (.t 21) (.t 28) (.c (.bool false)))])
 (.cond (.t 29) (.region 0 [oP 30 (.move (.t 3)),
 oP 31 (.move (.t 4)),
 oQ 32 (.litS 1 1 [.int .i64 0] [(0, (.t 31))]),
 oQ 33 (.append false 1 8 (.t 30) (.t 32)),
 oP 3 (.move (.t 33))])
 (.skip)))))
 (.region 0 [oP 12 (.move (.t 4)),
 oP 13 (.bin .add (.t 12) (.c (.int .i64 1))),
 oP 4 (.move (.t 13))]))))))
 (.seq (.region 0 [oP 34 (.move (.t 3)),
 oP 2 (.move (.t 34))])
 (.ret))))⟩
/-- almadraba/almadrabalaw09.Example -/
def f60 : AFn := ⟨27, [.cell true 8 0, .cell true 8 1],
 .seq (.region 0 [oQ 0 (.alloc [.nils, .int .i64 0, .nils, .nils, .nils, .int .i64 0, .int .i64 0, .nils]),
 oQ 1 (.alloc [.nils, .int .i64 0, .nils, .nils, .nils, .int .i64 0, .int .i64 0, .nils])])
 (.seq (.region 0 [oP 3 (.build [.int .i64 0, .int .i64 0] [(0, 1, (.c (.int .i64 3))), (1, 1, (.c (.int .i64 10)))]),
 oP 4 (.build [.int .i64 0, .int .i64 0] [(0, 1, (.c (.int .i64 5))), (1, 1, (.c (.int .i64 4)))]),
 oQ 5 (.litS 2 2 [.int .i64 0, .int .i64 0] [(0, (.t 3)), (1, (.t 4))]),
 oP 6 (.build [.int .i64 0, .int .i64 0] [(0, 1, (.c (.int .i64 0))), (1, 1, (.c (.int .i64 10)))]),
 oP 7 (.build [.int .i64 0, .int .i64 0] [(0, 1, (.c (.int .i64 0))), (1, 1, (.c (.int .i64 15)))]),
 oP 8 (.build [.int .i64 0, .int .i64 0] [(0, 1, (.c (.int .i64 1))), (1, 1, (.c (.int .i64 8)))]),
 oQ 9 (.litS 2 3 [.int .i64 0, .int .i64 0] [(0, (.t 6)), (1, (.t 7)), (2, (.t 8))]),
 oQ 10 (.litS 1 2 [.int .i64 0] [(0, (.c (.int .i64 40))), (1, (.c (.int .i64 20)))]),
 oP 11 (.build [.nils, .int .i64 0, .nils, .nils] [(0, 1, (.t 5)), (1, 1, (.c (.int .i64 2))), (2, 1, (.t 9)), (3, 1, (.t 10))]),
 oQ 2 (.alloc [.nils, .int .i64 0, .nils, .nils]),
 ⟨none, .store 4 (.t 2) (.t 11), none, none, []⟩])
 (.seq (.region 0 [oQ 12 (.load true 4 (.t 2)),
 oQ 13 (.litS 1 3 [.int .i64 0] [(0, (.c (.int .i64 0))), (1, (.c (.int .i64 0))), (2, (.c (.int .i64 1)))]),
 oQ 14 (.litS 1 1 [.int .i64 0] [(0, (.c (.int .i64 0)))]),
 oP 15 (.build [.int .i64 0, .nils, .int .i64 0] [(0, 1, (.c (.int .i64 0))), (1, 1, (.t 14)), (2, 1, (.c (.int .i64 30)))]),
 oQ 16 (.litS 1 2 [.int .i64 0] [(0, (.c (.int .i64 0))), (1, (.c (.int .i64 1)))]),
 oP 17 (.build [.int .i64 0, .nils, .int .i64 0] [(0, 1, (.c (.int .i64 1))), (1, 1, (.t 16)), (2, 1, (.c (.int .i64 45)))]),
 oQ 18 (.litS 1 1 [.int .i64 0] [(0, (.c (.int .i64 1)))]),
 oP 19 (.build [.int .i64 0, .nils, .int .i64 0] [(0, 1, (.c (.int .i64 2))), (1, 1, (.t 18)), (2, 1, (.c (.int .i64 12)))]),
 oQ 20 (.litS 1 1 [.int .i64 0] [(0, (.c (.int .i64 1)))]),
 oP 21 (.build [.int .i64 0, .nils, .int .i64 0] [(0, 1, (.c (.int .i64 0))), (1, 1, (.t 20)), (2, 1, (.c (.int .i64 20)))]),
 oQ 22 (.litS 3 4 [.int .i64 0, .nils, .int .i64 0] [(0, (.t 15)), (1, (.t 17)), (2, (.t 19)), (3, (.t 21))]),
 oP 23 (.build [.nils, .int .i64 0, .nils, .nils, .nils, .int .i64 0, .int .i64 0, .nils] [(0, 4, (.t 12)), (4, 1, (.t 13)), (5, 1, (.c (.int .i64 10))), (6, 1, (.c (.int .i64 3))), (7, 1, (.t 22))]),
 ⟨none, .store 8 (.t 0) (.t 23), none, none, []⟩])
 (.seq (.region 0 [oQ 24 (.load true 8 (.t 0)),
 oQ 25 (.load true 8 (.t 0)),
 oQ 26 (.call 1 93 [(.t 25), (.c (.int .i64 5))]),
 ⟨none, .store 8 (.t 0) (.t 24), none, none, []⟩,
 ⟨none, .store 8 (.t 1) (.t 26), none, none, []⟩])
 (.ret))))⟩
/-- almadraba/sales.open -/
def f61 : AFn := ⟨11, [.cell true 13 2],
 .seq (.region 0 [oQ 1 (.box (.t 0)),
 oQ 2 (.alloc [.nils, .int .i64 0, .nils, .nils, .nils, .int .i64 0, .int .i64 0, .nils, .bool false, .bool false, .bool false, .bool false, .nilm])])
 (.seq (.region 0 [oQ 3 (.load true 8 (.t 1)),
 oQ 4 (.makeMap (.a [none, none, none, none])),
 oP 5 (.build [.nils, .int .i64 0, .nils, .nils, .nils, .int .i64 0, .int .i64 0, .nils, .bool false, .bool false, .bool false, .bool false, .nilm] [(0, 8, (.t 3)), (12, 1, (.t 4))]),
 oP 6 (.fieldAddr 4 (.t 1)),
 oQ 7 (.load false 1 (.t 6)),
 oP 8 (.fieldAddr 5 (.t 1)),
 oQ 9 (.load false 1 (.t 8)),
 oQ 10 (.call 3 91 [(.t 5), (.t 7), (.t 9)]),
 ⟨none, .store 13 (.t 2) (.t 10), none, none, []⟩])
 (.ret))⟩
/-- almadraba/sales.fitBid -/
def f63 : AFn := ⟨17, [.tmp 4],
 .seq (.region 0 [oQ 2 (.box (.t 0)),
 oP 4 (.move (.c (.int .i64 0)))])
 (.seq (.region 0 [oQ 6 (.load true 8 (.t 2)),
 oQ 7 (.call 1 38 [(.t 6)]),
 oP 5 (.move (.t 7))])
 (.seq (.seq (.region 0 [oP 8 (.move (.t 5)),
 oP 9 (.bin .eql (.t 8) (.c (.int .i64 0))),
 oP 10 (.move (.t 9)),
 ⟨(some 11), .load true 8 (.t 2), (some (10, true)), none, []⟩,
 oG 12 10 true (.move (.t 1)),
 ⟨(some 13), .call 1 99 [(.t 11), (.t 12)], (some (10, true)), none, []⟩,
 oG 14 10 true (.un .not (.t 13)),
 oP 15 (.pick (.t 10) (.t 14) (.c (.bool false)))])
 (.cond (.t 15) (.seq (.region 0 [oP 4 (.move (.c (.int .i64 1)))])
 (.ret))
 (.skip)))
 (.seq (.region 0 [oP 16 (.move (.t 5)),
 oP 4 (.move (.t 16))])
 (.ret))))⟩
/-- (almadraba/sales.fair).split -/
def f64 : AFn := ⟨20, [.tmp 4, .tmp 5],
 .seq (.region 0 [oQ 2 (.box (.t 0)),
 oQ 3 (.box (.t 1)),
 oP 4 (.move (.c (.int .i64 0))),
 oP 5 (.move (.c (.int .i64 0)))])
 (.seq (.region 0 [oQ 7 (.load true 13 (.t 2)),
 oQ 8 (.load false 1 (.t 3)),
 oQ 9 (.call 3 81 [(.t 7), (.t 8)]),
 oP 6 (.move (.t 9)),
 oP 10 (.extract (.t 6) 0),
 oP 11 (.extract (.t 6) 1),
 oP 4 (.move (.t 11))])
 (.seq (.region 0 [oQ 13 (.load true 13 (.t 2)),
 oP 14 (.mkFn 101 [] [(.t 3)]),
 oQ 15 (.call 3 81 [(.t 13), (.t 14)]),
 oP 12 (.move (.t 15)),
 oP 16 (.extract (.t 12) 0),
 oP 17 (.extract (.t 12) 1),
 oP 5 (.move (.t 17))])
 (.seq (.region 0 [oP 18 (.move (.t 4)),
 oP 19 (.move (.t 5)),
 oP 4 (.move (.t 18)),
 oP 5 (.move (.t 19))])
 (.ret))))⟩
/-- almadraba/sales.has -/
def f65 : AFn := ⟨4, [.tmp 2],
 .seq (.region 0 [oQ 1 (.box (.t 0)),
 oP 2 (.move (.c (.nilf)))])
 (.seq (.region 0 [oP 3 (.mkFn 102 [] [(.t 1)]),
 oP 2 (.move (.t 3))])
 (.ret))⟩
/-- (almadraba/sales.fair).pays -/
def f66 : AFn := ⟨44, [.tmp 4],
 .seq (.region 0 [oQ 2 (.box (.t 0)),
 oQ 3 (.box (.t 1)),
 oP 4 (.move (.c (.int .i64 0)))])
 (.seq (.region 0 [oP 12 (.mkFn 104 [] [(.t 2), (.t 3)]),
 oQ 5 (.alloc [.nilf]),
 ⟨none, .store 1 (.t 5) (.t 12), none, none, []⟩])
 (.seq (.region 0 [oQ 14 (.load true 13 (.t 2)),
 oQ 15 (.call 3 81 [(.t 14), (.c (.fn 82 [] []))]),
 oP 13 (.move (.t 15)),
 oP 16 (.extract (.t 13) 0),
 oP 17 (.extract (.t 13) 1),
 oP 6 (.move (.t 16)),
 oP 7 (.move (.t 17))])
 (.seq (.region 0 [oP 18 (.move (.t 6)),
 oQ 19 (.load false 1 (.t 5)),
 oQ 20 (.call 3 105 [(.t 18), (.t 19)]),
 oP 8 (.move (.t 20))])
 (.seq (.seq (.region 0 [oP 21 (.move (.t 8)),
 oP 22 (.bin .lss (.t 21) (.c (.int .i64 0)))])
 (.cond (.t 22) (.seq (.region 0 [oP 4 (.move (.c (.int .i64 0)))])
 (.ret))
 (.skip)))
 (.seq (.region 0 [oP 23 (.move (.t 7)),
 oP 24 (.fieldAddr 0 (.t 2)),
 oP 25 (.fieldAddr 7 (.t 24)),
 oQ 26 (.load false 1 (.t 25)),
 oP 27 (.move (.t 6)),
 oP 28 (.move (.t 8)),
 oP 29 (.idxSl 1 (.t 27) (.t 28)),
 oQ 30 (.load false 1 (.t 29)),
 oP 31 (.idxSl 3 (.t 26) (.t 30)),
 oP 32 (.fieldAddr 2 (.t 31)),
 oQ 33 (.load false 1 (.t 32)),
 oP 34 (.bin .sub (.t 23) (.t 33)),
 oP 9 (.move (.t 34))])
 (.seq (.region 0 [oQ 36 (.load true 13 (.t 2)),
 oP 37 (.mkFn 106 [] [(.t 5)]),
 oQ 38 (.call 3 64 [(.t 36), (.t 37)]),
 oP 35 (.move (.t 38)),
 oP 39 (.extract (.t 35) 0),
 oP 40 (.extract (.t 35) 1),
 oP 10 (.move (.t 39)),
 oP 11 (.move (.t 40))])
 (.seq (.region 0 [oP 41 (.move (.t 11)),
 oP 42 (.move (.t 9)),
 oP 43 (.bin .sub (.t 41) (.t 42)),
 oP 4 (.move (.t 43))])
 (.ret))))))))⟩
/-- almadraba/sales.hasBuyer -/
def f67 : AFn := ⟨13, [.tmp 4],
 .seq (.region 0 [oQ 2 (.box (.t 0)),
 oP 4 (.move (.c (.bool false)))])
 (.seq (.region 0 [oP 5 (.move (.t 1)),
 oP 6 (.bin .leq (.c (.int .i64 0)) (.t 5)),
 oP 7 (.move (.t 6)),
 oG 8 7 true (.move (.t 1)),
 oG 9 7 true (.fieldAddr 6 (.t 2)),
 ⟨(some 10), .load false 1 (.t 9), (some (7, true)), none, []⟩,
 oG 11 7 true (.bin .lss (.t 8) (.t 10)),
 oP 12 (.pick (.t 7) (.t 11) (.c (.bool false))),
 oP 4 (.move (.t 12))])
 (.ret))⟩
/-- almadraba/almadrabaref09.within -/
def f68 : AFn := ⟨11, [.tmp 6],
 .seq (.region 0 [oP 6 (.move (.c (.bool false)))])
 (.seq (.region 0 [oP 7 (.move (.t 0)),
 oP 8 (.move (.t 1)),
 oP 9 (.move (.t 2)),
 oQ 10 (.call 1 23 [(.t 7), (.t 8), (.t 9)]),
 oP 6 (.move (.t 10))])
 (.ret))⟩
/-- almadraba/almadrabaref08.IsPacking -/
def f70 : AFn := ⟨28, [.tmp 4],
 .seq (.region 0 [oQ 2 (.box (.t 0)),
 oP 4 (.move (.c (.bool false)))])
 (.seq (.seq (.region 0 [oP 6 (.move (.t 1)),
 oP 7 (.lenS (.t 6)),
 oP 8 (.fieldAddr 2 (.t 2)),
 oQ 9 (.load false 1 (.t 8)),
 oP 10 (.lenS (.t 9)),
 oP 11 (.bin .neq (.t 7) (.t 10))])
 (.cond (.t 11) (.seq (.region 0 [oP 4 (.move (.c (.bool false)))])
 (.ret))
 (.skip)))
 (.seq (.seq (.region 0 [oP 5 (.move (.c (.int .i64 0)))])
 (.block 0 (.loop (.seq (.seq (.region 0 [oP 12 (.move (.t 5)),
 oP 13 (.move (.t 1)),
 oP 14 (.lenS (.t 13)),
 oP 15 (.bin .lss (.t 12) (.t 14))])
 (.cond (.t 15) (.skip)
 (.exit 0)))
 (.seq (.block 1 (.seq (.region 0 [oQ 18 (.load true 4 (.t 2)),
 oP 19 (.move (.t 1)),
 oP 20 (.move (.t 5)),
 oP 21 (.idxSl 1 (.t 19) (.t 20)),
 oQ 22 (.load false 1 (.t 21)),
 oQ 23 (.call 1 108 [(.t 18), (.t 22)]),
 oP 24 (.un .not (.t 23))])
 (.cond (.t 24) (.seq (.region 0 [oP 4 (.move (.c (.bool false)))])
 (.ret))
 (.skip))))
 (.region 0 [oP 16 (.move (.t 5)),
 oP 17 (.bin .add (.t 16) (.c (.int .i64 1))),
 oP 5 (.move (.t 17))]))))))
 (.seq (.region 0 [oQ 25 (.load true 4 (.t 2)),
 oP 26 (.move (.t 1)),
 oQ 27 (.call 1 109 [(.t 25), (.t 26)]),
 oP 4 (.move (.t 27))])
 (.ret))))⟩
/-- almadraba/almadrabaref08.Copy -/
def f72 : AFn := ⟨21, [.cell true 4 2],
 .seq (.region 0 [oQ 1 (.box (.t 0)),
 oQ 2 (.alloc [.nils, .int .i64 0, .nils, .nils])])
 (.seq (.region 0 [oQ 4 (.load true 4 (.t 1)),
 oQ 3 (.alloc [.nils, .int .i64 0, .nils, .nils]),
 ⟨none, .store 4 (.t 3) (.t 4), none, none, []⟩])
 (.seq (.region 0 [oQ 5 (.buildSlice 2 0 [.int .i64 0, .int .i64 0] []),
 oP 6 (.fieldAddr 0 (.t 1)),
 oQ 7 (.load false 1 (.t 6)),
 oQ 8 (.append false 2 16 (.t 5) (.t 7)),
 oP 9 (.fieldAddr 0 (.t 3)),
 ⟨none, .store 1 (.t 9) (.t 8), none, none, []⟩])
 (.seq (.region 0 [oQ 10 (.buildSlice 2 0 [.int .i64 0, .int .i64 0] []),
 oP 11 (.fieldAddr 2 (.t 1)),
 oQ 12 (.load false 1 (.t 11)),
 oQ 13 (.append false 2 16 (.t 10) (.t 12)),
 oP 14 (.fieldAddr 2 (.t 3)),
 ⟨none, .store 1 (.t 14) (.t 13), none, none, []⟩])
 (.seq (.region 0 [oQ 15 (.buildSlice 1 0 [.int .i64 0] []),
 oP 16 (.fieldAddr 3 (.t 1)),
 oQ 17 (.load false 1 (.t 16)),
 oQ 18 (.append false 1 8 (.t 15) (.t 17)),
 oP 19 (.fieldAddr 3 (.t 3)),
 ⟨none, .store 1 (.t 19) (.t 18), none, none, []⟩])
 (.seq (.region 0 [oQ 20 (.load true 4 (.t 3)),
 ⟨none, .store 4 (.t 2) (.t 20), none, none, []⟩])
 (.ret))))))⟩
/-- almadraba/almadrabalaw08.Huge -/
def f73 : AFn := ⟨19, [.tmp 2],
 .seq (.region 0 [oQ 1 (.box (.t 0)),
 oP 2 (.move (.c (.bool false)))])
 (.seq (.region 0 [oP 3 (.fieldAddr 0 (.t 1)),
 oQ 4 (.load false 1 (.t 3)),
 oP 5 (.lenS (.t 4)),
 oP 6 (.bin .gtr (.t 5) (.c (.int .i64 40))),
 oP 7 (.move (.t 6)),
 oG 8 7 false (.fieldAddr 2 (.t 1)),
 ⟨(some 9), .load false 1 (.t 8), (some (7, false)), none, []⟩,
 oG 10 7 false (.lenS (.t 9)),
 oG 11 7 false (.bin .gtr (.t 10) (.c (.int .i64 40))),
 oP 12 (.pick (.t 7) (.c (.bool true)) (.t 11)),
 oP 13 (.move (.t 12)),
 oG 14 13 false (.fieldAddr 3 (.t 1)),
 ⟨(some 15), .load false 1 (.t 14), (some (13, false)), none, []⟩,
 oG 16 13 false (.lenS (.t 15)),
 oG 17 13 false (.bin .gtr (.t 16) (.c (.int .i64 40))),
 oP 18 (.pick (.t 13) (.c (.bool true)) (.t 17)),
 oP 2 (.move (.t 18))])
 (.ret))⟩
/-- almadraba/sales.valid -/
def f74 : AFn := ⟨38, [.tmp 2],
 .seq (.region 0 [oQ 1 (.box (.t 0)),
 oP 2 (.move (.c (.bool false)))])
 (.seq (.region 0 [oP 6 (.mkFn 111 [] [(.t 1)]),
 oP 3 (.move (.t 6))])
 (.seq (.region 0 [oP 8 (.fieldAddr 0 (.t 1)),
 oQ 9 (.load true 4 (.t 8)),
 oP 10 (.fieldAddr 4 (.t 1)),
 oQ 11 (.load false 1 (.t 10)),
 oQ 12 (.call 1 113 [(.t 9), (.t 11)]),
 oP 7 (.move (.t 12)),
 oP 13 (.extract (.t 7) 0),
 oP 14 (.extract (.t 7) 1),
 oP 4 (.move (.t 13)),
 oP 5 (.move (.t 14))])
 (.seq (.region 0 [oP 15 (.move (.t 4)),
 oP 16 (.move (.t 15)),
 oG 17 16 true (.fieldAddr 5 (.t 1)),
 ⟨(some 18), .load false 1 (.t 17), (some (16, true)), none, []⟩,
 ⟨(some 19), .call 1 90 [(.t 18), (.c (.int .i64 0)), (.c (.int .i64 20))], (some (16, true)), none, []⟩,
 oP 20 (.pick (.t 16) (.t 19) (.c (.bool false))),
 oP 21 (.move (.t 20)),
 oG 22 21 true (.fieldAddr 6 (.t 1)),
 ⟨(some 23), .load false 1 (.t 22), (some (21, true)), none, []⟩,
 ⟨(some 24), .call 1 90 [(.t 23), (.c (.int .i64 0)), (.c (.int .i64 4))], (some (21, true)), none, []⟩,
 oP 25 (.pick (.t 21) (.t 24) (.c (.bool false))),
 oP 26 (.move (.t 25)),
 oG 27 26 true (.fieldAddr 7 (.t 1)),
 ⟨(some 28), .load false 1 (.t 27), (some (26, true)), none, []⟩,
 oG 29 26 true (.lenS (.t 28)),
 oG 30 26 true (.bin .leq (.t 29) (.c (.int .i64 8))),
 oP 31 (.pick (.t 26) (.t 30) (.c (.bool false))),
 oP 32 (.move (.t 31)),
 oG 33 32 true (.fieldAddr 7 (.t 1)),
 ⟨(some 34), .load false 1 (.t 33), (some (32, true)), none, []⟩,
 oG 35 32 true (.move (.t 3)),
 ⟨(some 36), .call 3 114 [(.t 34), (.t 35)], (some (32, true)), none, []⟩,
 oP 37 (.pick (.t 32) (.t 36) (.c (.bool false))),
 oP 2 (.move (.t 37))])
 (.ret))))⟩
end Go.Proofs.YtfagcnokdnanpaaGreat.T
