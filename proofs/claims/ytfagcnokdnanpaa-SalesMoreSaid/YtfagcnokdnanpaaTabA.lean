/-
The code of functions of the seat, as the abstract machine has it (printed by a tool of ours off the dump).
-/
import Derived.Test.YtfagcnokdnanpaaAmX
namespace Go.Proofs.Ytfagcnokdnanpaa.T
open Go Go.Am
abbrev oP (n : Nat) (p : POp) : AOper := ⟨some n, .p p, none, none, []⟩
abbrev oQ (n : Nat) (p : AOp) : AOper := ⟨some n, p, none, none, []⟩
abbrev oG (n m : Nat) (b : Bool) (p : POp) : AOper := ⟨some n, .p p, some (m, b), none, []⟩
/-- almadraba/almadrabalaw09.SalesMore -/
def f3 : AFn := ⟨102, [.tmp 6],
 .seq (.region 0 [oQ 3 (.box (.t 0)),
 oQ 4 (.box (.t 1)),
 oP 6 (.move (.c (.bool false)))])
 (.seq (.seq (.region 0 [oQ 12 (.load true 8 (.t 3)),
 oQ 13 (.call 1 6 [(.t 12)]),
 oP 14 (.un .not (.t 13)),
 oP 15 (.move (.t 14)),
 oG 16 15 false (.fieldAddr 1 (.t 4)),
 ⟨(some 17), .load false 1 (.t 16), (some (15, false)), none, []⟩,
 oG 18 15 false (.lenS (.t 17)),
 oG 19 15 false (.bin .gtr (.t 18) (.c (.int .i64 40))),
 oP 20 (.pick (.t 15) (.c (.bool true)) (.t 19))])
 (.cond (.t 20) (.seq (.region 0 [oQ 21 (.call 1 7 []),
 oP 6 (.move (.t 21))])
 (.ret))
 (.skip)))
 (.seq (.region 0 [oQ 22 (.load true 8 (.t 3)),
 oQ 23 (.call 1 8 [(.t 22)]),
 oP 7 (.move (.t 23))])
 (.seq (.seq (.region 0 [oP 24 (.move (.t 7)),
 oP 25 (.bin .lss (.t 24) (.c (.int .i64 0)))])
 (.cond (.t 25) (.seq (.region 0 [oP 6 (.move (.c (.bool false)))])
 (.ret))
 (.skip)))
 (.seq (.region 0 [oQ 26 (.load true 8 (.t 3)),
 oQ 27 (.call 2 9 [(.t 26)]),
 oQ 8 (.alloc [.nils, .int .i64 0, .nils, .nils, .nils, .int .i64 0, .int .i64 0, .nils]),
 ⟨none, .store 8 (.t 8) (.t 27), none, none, []⟩])
 (.seq (.region 1 [oP 28 (.fieldAddr 7 (.t 8)),
 ⟨(some 29), .load false 1 (.t 28), none, none, [0]⟩,
 ⟨(some 30), .load true 3 (.t 4), none, none, [0]⟩,
 ⟨(some 31), .call 1 10 [(.t 30)], none, none, [0]⟩,
 oQ 32 (.litS 3 1 [.int .i64 0, .nils, .int .i64 0] [(0, (.t 31))]),
 ⟨(some 33), .append false 3 40 (.t 29) (.t 32), none, (some 0), []⟩,
 oP 34 (.fieldAddr 7 (.t 8)),
 ⟨none, .store 1 (.t 34) (.t 33), none, none, []⟩])
 (.seq (.seq (.region 0 [oQ 35 (.load true 8 (.t 8)),
 oQ 36 (.call 1 6 [(.t 35)]),
 oP 37 (.move (.t 36)),
 ⟨(some 38), .load true 8 (.t 8), (some (37, true)), none, []⟩,
 ⟨(some 39), .call 1 8 [(.t 38)], (some (37, true)), none, []⟩,
 oG 40 37 true (.move (.t 7)),
 oG 41 37 true (.bin .lss (.t 39) (.t 40)),
 oP 42 (.pick (.t 37) (.t 41) (.c (.bool false)))])
 (.cond (.t 42) (.seq (.region 0 [oP 6 (.move (.c (.bool false)))])
 (.ret))
 (.skip)))
 (.seq (.seq (.region 0 [oQ 43 (.load true 8 (.t 3)),
 oP 44 (.move (.t 2)),
 oQ 45 (.call 1 11 [(.t 43), (.t 44)]),
 oP 46 (.un .not (.t 45)),
 oP 47 (.move (.t 46)),
 oG 48 47 false (.fieldAddr 7 (.t 3)),
 ⟨(some 49), .load false 1 (.t 48), (some (47, false)), none, []⟩,
 oG 50 47 false (.move (.t 2)),
 oG 51 47 false (.idxSl 3 (.t 49) (.t 50)),
 oG 52 47 false (.fieldAddr 2 (.t 51)),
 ⟨(some 53), .load false 1 (.t 52), (some (47, false)), none, []⟩,
 oG 54 47 false (.bin .eql (.t 53) (.c (.int .i64 99))),
 oP 55 (.pick (.t 47) (.c (.bool true)) (.t 54))])
 (.cond (.t 55) (.seq (.region 0 [oQ 56 (.call 1 7 []),
 oP 6 (.move (.t 56))])
 (.ret))
 (.skip)))
 (.seq (.region 0 [oQ 57 (.load true 8 (.t 3)),
 oP 58 (.move (.t 2)),
 oP 59 (.fieldAddr 7 (.t 3)),
 oQ 60 (.load false 1 (.t 59)),
 oP 61 (.move (.t 2)),
 oP 62 (.idxSl 3 (.t 60) (.t 61)),
 oP 63 (.fieldAddr 2 (.t 62)),
 oQ 64 (.load false 1 (.t 63)),
 oP 65 (.bin .add (.t 64) (.c (.int .i64 1))),
 oQ 66 (.call 1 12 [(.t 57), (.t 58), (.t 65)]),
 oQ 67 (.call 1 8 [(.t 66)]),
 oP 9 (.move (.t 67))])
 (.seq (.region 0 [oQ 69 (.load true 8 (.t 3)),
 oP 70 (.move (.t 2)),
 oQ 71 (.call 1 13 [(.t 69), (.t 70)]),
 oP 68 (.move (.t 71)),
 oP 72 (.extract (.t 68) 0),
 oP 73 (.extract (.t 68) 1),
 oP 10 (.move (.t 72)),
 oP 11 (.move (.t 73))])
 (.seq (.region 0 [oP 74 (.move (.t 11)),
 oP 75 (.bin .eql (.t 74) (.c (.int .i64 0))),
 oP 76 (.move (.t 75)),
 oG 77 76 true (.move (.t 9)),
 oG 78 76 true (.move (.t 7)),
 oG 79 76 true (.bin .eql (.t 77) (.t 78)),
 oG 80 76 true (.move (.t 79)),
 oG 81 80 true (.move (.t 10)),
 oG 82 80 true (.bin .eql (.t 81) (.c (.int .i64 2))),
 oG 83 76 true (.pick (.t 80) (.t 82) (.c (.bool false))),
 oG 84 76 true (.move (.t 83)),
 oG 85 84 false (.move (.t 9)),
 oG 86 84 false (.move (.t 7)),
 oG 87 84 false (.bin .add (.t 86) (.c (.int .i64 1))),
 oG 88 84 false (.bin .eql (.t 85) (.t 87)),
 oG 89 84 false (.move (.t 88)),
 oG 90 89 true (.move (.t 10)),
 oG 91 89 true (.bin .eql (.t 90) (.c (.int .i64 1))),
 oG 92 89 true (.move (.t 91)),
 oG 93 92 false (.move (.t 10)),
 oG 94 92 false (.bin .eql (.t 93) (.c (.int .i64 3))),
 oG 95 89 true (.pick (.t 92) (.c (.bool true)) (.t 94)),
 oG 96 84 false (.pick (.t 89) (.t 95) (.c (.bool false))),
 oG 97 76 true (.pick (.t 84) (.c (.bool true)) (.t 96)),
 oP 98 (.pick (.t 76) (.t 97) (.c (.bool false))),
 oP 99 (.move (.t 98)),
 ⟨(some 100), .call 1 7 [], (some (99, true)), none, []⟩,
 oP 101 (.pick (.t 99) (.t 100) (.c (.bool false))),
 oP 6 (.move (.t 101))])
 (.ret)))))))))))⟩
/-- almadraba/almadrabalaw09.SalesNeed -/
def f4 : AFn := ⟨99, [.tmp 4],
 .seq (.region 0 [oQ 2 (.box (.t 0)),
 oP 4 (.move (.c (.bool false)))])
 (.seq (.seq (.region 0 [oQ 12 (.load true 8 (.t 2)),
 oQ 13 (.call 1 6 [(.t 12)]),
 oP 14 (.un .not (.t 13)),
 oP 15 (.move (.t 14)),
 ⟨(some 16), .load true 8 (.t 2), (some (15, false)), none, []⟩,
 oG 17 15 false (.move (.t 1)),
 ⟨(some 18), .call 1 11 [(.t 16), (.t 17)], (some (15, false)), none, []⟩,
 oG 19 15 false (.un .not (.t 18)),
 oP 20 (.pick (.t 15) (.c (.bool true)) (.t 19))])
 (.cond (.t 20) (.seq (.region 0 [oQ 21 (.call 1 7 []),
 oP 4 (.move (.t 21))])
 (.ret))
 (.skip)))
 (.seq (.region 0 [oQ 23 (.load true 8 (.t 2)),
 oP 24 (.move (.t 1)),
 oQ 25 (.call 1 14 [(.t 23), (.t 24)]),
 oP 22 (.move (.t 25)),
 oP 26 (.extract (.t 22) 0),
 oP 27 (.extract (.t 22) 1),
 oP 5 (.move (.t 26)),
 oP 6 (.move (.t 27))])
 (.seq (.region 0 [oQ 29 (.load true 8 (.t 2)),
 oP 30 (.move (.t 1)),
 oQ 31 (.call 1 13 [(.t 29), (.t 30)]),
 oP 28 (.move (.t 31)),
 oP 32 (.extract (.t 28) 0),
 oP 33 (.extract (.t 28) 1),
 oP 7 (.move (.t 32)),
 oP 8 (.move (.t 33))])
 (.seq (.seq (.region 0 [oP 34 (.move (.t 6)),
 oP 35 (.bin .neq (.t 34) (.c (.int .i64 0))),
 oP 36 (.move (.t 35)),
 oG 37 36 true (.move (.t 6)),
 oG 38 36 true (.bin .neq (.t 37) (.c (.int .i64 3))),
 oP 39 (.pick (.t 36) (.t 38) (.c (.bool false))),
 oP 40 (.move (.t 39)),
 oG 41 40 false (.move (.t 8)),
 oG 42 40 false (.bin .neq (.t 41) (.c (.int .i64 0))),
 oP 43 (.pick (.t 40) (.c (.bool true)) (.t 42)),
 oP 44 (.move (.t 43)),
 oG 45 44 false (.move (.t 7)),
 ⟨(some 46), .call 1 15 [(.t 45), (.c (.int .i64 1)), (.c (.int .i64 3))], (some (44, false)), none, []⟩,
 oG 47 44 false (.un .not (.t 46)),
 oP 48 (.pick (.t 44) (.c (.bool true)) (.t 47))])
 (.cond (.t 48) (.seq (.region 0 [oP 4 (.move (.c (.bool false)))])
 (.ret))
 (.skip)))
 (.seq (.seq (.region 0 [oP 49 (.move (.t 6)),
 oP 50 (.bin .neq (.t 49) (.c (.int .i64 0)))])
 (.cond (.t 50) (.region 0 [oP 5 (.move (.c (.int .i64 100)))])
 (.skip)))
 (.seq (.seq (.region 0 [oP 51 (.move (.t 5)),
 oP 52 (.bin .lss (.t 51) (.c (.int .i64 0))),
 oP 53 (.move (.t 52)),
 oG 54 53 false (.move (.t 5)),
 oG 55 53 false (.bin .gtr (.t 54) (.c (.int .i64 100))),
 oP 56 (.pick (.t 53) (.c (.bool true)) (.t 55)),
 oP 57 (.move (.t 56)),
 oG 58 57 false (.move (.t 7)),
 oG 59 57 false (.bin .neq (.t 58) (.c (.int .i64 2))),
 oG 60 57 false (.fieldAddr 7 (.t 2)),
 ⟨(some 61), .load false 1 (.t 60), (some (57, false)), none, []⟩,
 oG 62 57 false (.move (.t 1)),
 oG 63 57 false (.idxSl 3 (.t 61) (.t 62)),
 oG 64 57 false (.fieldAddr 2 (.t 63)),
 ⟨(some 65), .load false 1 (.t 64), (some (57, false)), none, []⟩,
 oG 66 57 false (.move (.t 5)),
 oG 67 57 false (.bin .geq (.t 65) (.t 66)),
 oG 68 57 false (.eqB true (.t 59) (.t 67)),
 oP 69 (.pick (.t 57) (.c (.bool true)) (.t 68))])
 (.cond (.t 69) (.seq (.region 0 [oP 4 (.move (.c (.bool false)))])
 (.ret))
 (.skip)))
 (.seq (.seq (.region 0 [oP 70 (.move (.t 5)),
 oP 71 (.bin .sub (.t 70) (.c (.int .i64 1))),
 oP 72 (.minmax true (.c (.int .i64 0)) [(.t 71)]),
 oP 9 (.move (.t 72))])
 (.block 0 (.loop (.seq (.seq (.region 0 [oP 73 (.move (.t 9)),
 oP 74 (.move (.t 5)),
 oP 75 (.minmax false (.t 74) [(.c (.int .i64 99))]),
 oP 76 (.bin .leq (.t 73) (.t 75))])
 (.cond (.t 76) (.skip)
 (.exit 0)))
 (.seq (.block 1 (.seq (.region 0 [oQ 80 (.load true 8 (.t 2)),
 oP 81 (.move (.t 1)),
 oP 82 (.move (.t 9)),
 oQ 83 (.call 1 12 [(.t 80), (.t 81), (.t 82)]),
 oP 84 (.move (.t 1)),
 oQ 85 (.call 1 13 [(.t 83), (.t 84)]),
 oP 79 (.move (.t 85)),
 oP 86 (.extract (.t 79) 0),
 oP 87 (.extract (.t 79) 1),
 oP 10 (.move (.t 86)),
 oP 11 (.move (.t 87))])
 (.seq (.region 0 [oP 88 (.move (.t 11)),
 oP 89 (.bin .neq (.t 88) (.c (.int .i64 0))),
 oP 90 (.move (.t 89)),
 oG 91 90 false (.move (.t 10)),
 oG 92 90 false (.bin .eql (.t 91) (.c (.int .i64 2))),
 oG 93 90 false (.move (.t 9)),
 oG 94 90 false (.move (.t 5)),
 oG 95 90 false (.bin .lss (.t 93) (.t 94)),
 oG 96 90 false (.eqB true (.t 92) (.t 95)),
 oP 97 (.pick (.t 90) (.c (.bool true)) (.t 96))])
 (.cond (.t 97) (.seq (.region 0 [oP 4 (.move (.c (.bool false)))])
 (.ret))
 (.skip)))))
 (.region 0 [oP 77 (.move (.t 9)),
 oP 78 (.bin .add (.t 77) (.c (.int .i64 1))),
 oP 9 (.move (.t 78))]))))))
 (.seq (.region 0 [oQ 98 (.call 1 7 []),
 oP 4 (.move (.t 98))])
 (.ret)))))))))⟩
/-- almadraba/almadrabalaw09.ready -/
def f6 : AFn := ⟨11, [.tmp 2],
 .seq (.region 0 [oQ 1 (.box (.t 0)),
 oP 2 (.move (.c (.bool false)))])
 (.seq (.region 0 [oQ 3 (.load true 8 (.t 1)),
 oQ 4 (.call 1 22 [(.t 3)]),
 oP 5 (.un .not (.t 4)),
 oP 6 (.move (.t 5)),
 ⟨(some 7), .load true 8 (.t 1), (some (6, true)), none, []⟩,
 ⟨(some 8), .call 1 23 [(.t 7)], (some (6, true)), none, []⟩,
 oG 9 6 true (.bin .eql (.t 8) (.c (.int .i64 0))),
 oP 10 (.pick (.t 6) (.t 9) (.c (.bool false))),
 oP 2 (.move (.t 10))])
 (.ret))⟩
/-- almadraba/almadrabalaw09.works -/
def f7 : AFn := ⟨97, [.tmp 0],
 .seq (.region 0 [oP 0 (.move (.c (.bool false)))])
 (.seq (.region 0 [oQ 16 (.call 1 24 []),
 oP 15 (.move (.t 16)),
 oP 17 (.extract (.t 15) 0),
 oP 18 (.extract (.t 15) 1),
 oQ 1 (.alloc [.nils, .int .i64 0, .nils, .nils, .nils, .int .i64 0, .int .i64 0, .nils]),
 oQ 2 (.alloc [.nils, .int .i64 0, .nils, .nils, .nils, .int .i64 0, .int .i64 0, .nils]),
 ⟨none, .store 8 (.t 1) (.t 17), none, none, []⟩,
 ⟨none, .store 8 (.t 2) (.t 18), none, none, []⟩])
 (.seq (.region 0 [oQ 20 (.load true 8 (.t 2)),
 oQ 21 (.call 1 18 [(.t 20)]),
 oP 19 (.move (.t 21)),
 oP 22 (.extract (.t 19) 0),
 oP 23 (.extract (.t 19) 1),
 oP 3 (.move (.t 22)),
 oP 4 (.move (.t 23))])
 (.seq (.region 0 [oQ 25 (.load true 8 (.t 1)),
 oQ 26 (.call 1 25 [(.t 25)]),
 oP 24 (.move (.t 26)),
 oP 27 (.extract (.t 24) 0),
 oP 28 (.extract (.t 24) 1),
 oP 5 (.move (.t 27)),
 oP 6 (.move (.t 28))])
 (.seq (.region 0 [oQ 30 (.load true 8 (.t 1)),
 oQ 31 (.call 1 26 [(.t 30)]),
 oP 29 (.move (.t 31)),
 oP 32 (.extract (.t 29) 0),
 oP 33 (.extract (.t 29) 1),
 oP 7 (.move (.t 32)),
 oP 8 (.move (.t 33))])
 (.seq (.region 0 [oQ 35 (.load true 8 (.t 1)),
 oQ 36 (.call 1 27 [(.t 35), (.c (.int .i64 1))]),
 oP 34 (.move (.t 36)),
 oP 37 (.extract (.t 34) 0),
 oP 38 (.extract (.t 34) 1),
 oP 9 (.move (.t 37)),
 oP 10 (.move (.t 38))])
 (.seq (.region 0 [oQ 40 (.load true 8 (.t 1)),
 oQ 41 (.call 1 14 [(.t 40), (.c (.int .i64 0))]),
 oP 39 (.move (.t 41)),
 oP 42 (.extract (.t 39) 0),
 oP 43 (.extract (.t 39) 1),
 oP 11 (.move (.t 42)),
 oP 12 (.move (.t 43))])
 (.seq (.region 0 [oQ 45 (.load true 8 (.t 1)),
 oQ 46 (.call 1 20 [(.t 45)]),
 oP 44 (.move (.t 46)),
 oP 47 (.extract (.t 44) 0),
 oP 48 (.extract (.t 44) 1),
 oP 13 (.move (.t 47)),
 oP 14 (.move (.t 48))])
 (.seq (.region 0 [oP 49 (.move (.t 4)),
 oP 50 (.bin .eql (.t 49) (.c (.int .i64 0))),
 oP 51 (.move (.t 50)),
 oG 52 51 true (.move (.t 6)),
 oG 53 51 true (.bin .eql (.t 52) (.c (.int .i64 0))),
 oP 54 (.pick (.t 51) (.t 53) (.c (.bool false))),
 oP 55 (.move (.t 54)),
 oG 56 55 true (.move (.t 8)),
 oG 57 55 true (.bin .eql (.t 56) (.c (.int .i64 0))),
 oP 58 (.pick (.t 55) (.t 57) (.c (.bool false))),
 oP 59 (.move (.t 58)),
 oG 60 59 true (.move (.t 10)),
 oG 61 59 true (.bin .eql (.t 60) (.c (.int .i64 0))),
 oP 62 (.pick (.t 59) (.t 61) (.c (.bool false))),
 oP 63 (.move (.t 62)),
 oG 64 63 true (.move (.t 12)),
 oG 65 63 true (.bin .eql (.t 64) (.c (.int .i64 0))),
 oP 66 (.pick (.t 63) (.t 65) (.c (.bool false))),
 oP 67 (.move (.t 66)),
 oG 68 67 true (.move (.t 14)),
 oG 69 67 true (.bin .eql (.t 68) (.c (.int .i64 0))),
 oP 70 (.pick (.t 67) (.t 69) (.c (.bool false))),
 oP 71 (.move (.t 70)),
 oG 72 71 true (.move (.t 3)),
 ⟨(some 73), .litS 1 1 [.int .i64 0] [(0, (.c (.int .i64 1)))], (some (71, true)), none, []⟩,
 ⟨(some 74), .call 1 28 [(.t 72), (.t 73)], (some (71, true)), none, []⟩,
 oP 75 (.pick (.t 71) (.t 74) (.c (.bool false))),
 oP 76 (.move (.t 75)),
 oG 77 76 true (.move (.t 5)),
 oG 78 76 true (.bin .eql (.t 77) (.c (.int .i64 45))),
 oP 79 (.pick (.t 76) (.t 78) (.c (.bool false))),
 oP 80 (.move (.t 79)),
 oG 81 80 true (.move (.t 7)),
 ⟨(some 82), .litS 1 1 [.int .i64 0] [(0, (.c (.int .i64 1)))], (some (80, true)), none, []⟩,
 ⟨(some 83), .call 1 28 [(.t 81), (.t 82)], (some (80, true)), none, []⟩,
 oP 84 (.pick (.t 80) (.t 83) (.c (.bool false))),
 oP 85 (.move (.t 84)),
 oG 86 85 true (.move (.t 9)),
 oG 87 85 true (.bin .eql (.t 86) (.c (.int .i64 42))),
 oP 88 (.pick (.t 85) (.t 87) (.c (.bool false))),
 oP 89 (.move (.t 88)),
 oG 90 89 true (.move (.t 11)),
 oG 91 89 true (.bin .eql (.t 90) (.c (.int .i64 33))),
 oP 92 (.pick (.t 89) (.t 91) (.c (.bool false))),
 oP 93 (.move (.t 92)),
 oG 94 93 true (.move (.t 13)),
 oG 95 93 true (.bin .eql (.t 94) (.c (.int .i64 10))),
 oP 96 (.pick (.t 93) (.t 95) (.c (.bool false))),
 oP 0 (.move (.t 96))])
 (.ret)))))))))⟩
/-- almadraba/almadrabalaw09.most -/
def f8 : AFn := ⟨21, [.tmp 2],
 .seq (.region 0 [oQ 1 (.box (.t 0)),
 oP 2 (.move (.c (.int .i64 0)))])
 (.seq (.region 0 [oQ 6 (.load true 8 (.t 1)),
 oQ 7 (.call 1 25 [(.t 6)]),
 oP 5 (.move (.t 7)),
 oP 8 (.extract (.t 5) 0),
 oP 9 (.extract (.t 5) 1),
 oP 3 (.move (.t 8)),
 oP 4 (.move (.t 9))])
 (.seq (.seq (.region 0 [oP 10 (.move (.t 4)),
 oP 11 (.bin .neq (.t 10) (.c (.int .i64 0))),
 oP 12 (.move (.t 11)),
 oG 13 12 false (.move (.t 3)),
 oG 14 12 false (.bin .lss (.t 13) (.c (.int .i64 0))),
 oP 15 (.pick (.t 12) (.c (.bool true)) (.t 14)),
 oP 16 (.move (.t 15)),
 oG 17 16 false (.move (.t 3)),
 oG 18 16 false (.bin .geq (.t 17) (.c (.int .i64 1000))),
 oP 19 (.pick (.t 16) (.c (.bool true)) (.t 18))])
 (.cond (.t 19) (.seq (.region 0 [oP 2 (.move (.c (.int .i64 (-1))))])
 (.ret))
 (.skip)))
 (.seq (.region 0 [oP 20 (.move (.t 3)),
 oP 2 (.move (.t 20))])
 (.ret))))⟩
/-- almadraba/almadrabaref09.Copy -/
def f9 : AFn := ⟨36, [.cell true 8 2],
 .seq (.region 0 [oQ 1 (.box (.t 0)),
 oQ 2 (.alloc [.nils, .int .i64 0, .nils, .nils, .nils, .int .i64 0, .int .i64 0, .nils])])
 (.seq (.region 3 [oP 5 (.fieldAddr 0 (.t 1)),
 ⟨(some 6), .load true 4 (.t 5), none, none, [0, 1, 2]⟩,
 ⟨(some 7), .call 1 29 [(.t 6)], none, none, [0, 1, 2]⟩,
 ⟨(some 8), .buildSlice 1 0 [.int .i64 0] [], none, (some 0), []⟩,
 oP 9 (.fieldAddr 4 (.t 1)),
 ⟨(some 10), .load false 1 (.t 9), none, none, [0, 1, 2]⟩,
 ⟨(some 11), .append true 1 8 (.t 8) (.t 10), none, (some 1), [2]⟩,
 oP 12 (.fieldAddr 5 (.t 1)),
 ⟨(some 13), .load false 1 (.t 12), none, none, [0, 1, 2]⟩,
 oP 14 (.fieldAddr 6 (.t 1)),
 ⟨(some 15), .load false 1 (.t 14), none, none, [0, 1, 2]⟩,
 oP 16 (.build [.nils, .int .i64 0, .nils, .nils, .nils, .int .i64 0, .int .i64 0, .nils] [(0, 4, (.t 7)), (4, 1, (.t 11)), (5, 1, (.t 13)), (6, 1, (.t 15))]),
 ⟨(some 3), .alloc [.nils, .int .i64 0, .nils, .nils, .nils, .int .i64 0, .int .i64 0, .nils], none, (some 2), []⟩,
 ⟨none, .store 8 (.t 3) (.t 16), none, (some 2), []⟩])
 (.seq (.seq (.region 0 [oP 4 (.move (.c (.int .i64 0)))])
 (.block 0 (.loop (.seq (.seq (.region 0 [oP 17 (.move (.t 4)),
 oP 18 (.fieldAddr 7 (.t 1)),
 oQ 19 (.load false 1 (.t 18)),
 oP 20 (.lenS (.t 19)),
 oP 21 (.bin .lss (.t 17) (.t 20))])
 (.cond (.t 21) (.skip)
 (.exit 0)))
 (.seq (.block 1 (.region 1 [oP 24 (.fieldAddr 7 (.t 3)),
 ⟨(some 25), .load false 1 (.t 24), none, none, [0]⟩,
 oP 26 (.fieldAddr 7 (.t 1)),
 ⟨(some 27), .load false 1 (.t 26), none, none, [0]⟩,
 oP 28 (.move (.t 4)),
 oP 29 (.idxSl 3 (.t 27) (.t 28)),
 ⟨(some 30), .load true 3 (.t 29), none, none, [0]⟩,
 ⟨(some 31), .call 1 10 [(.t 30)], none, none, [0]⟩,
 oQ 32 (.litS 3 1 [.int .i64 0, .nils, .int .i64 0] [(0, (.t 31))]),
 ⟨(some 33), .append false 3 40 (.t 25) (.t 32), none, (some 0), []⟩,
 oP 34 (.fieldAddr 7 (.t 3)),
 ⟨none, .store 1 (.t 34) (.t 33), none, none, []⟩]))
 (.region 0 [oP 22 (.move (.t 4)),
 oP 23 (.bin .add (.t 22) (.c (.int .i64 1))),
 oP 4 (.move (.t 23))]))))))
 (.seq (.region 0 [oQ 35 (.load true 8 (.t 3)),
 ⟨none, .store 8 (.t 2) (.t 35), none, none, []⟩])
 (.ret))))⟩
/-- almadraba/almadrabaref09.CopyBid -/
def f10 : AFn := ⟨12, [.cell true 3 2],
 .seq (.region 0 [oQ 1 (.box (.t 0)),
 oQ 2 (.alloc [.int .i64 0, .nils, .int .i64 0])])
 (.seq (.region 2 [oP 3 (.fieldAddr 0 (.t 1)),
 ⟨(some 4), .load false 1 (.t 3), none, none, [0, 1]⟩,
 ⟨(some 5), .buildSlice 1 0 [.int .i64 0] [], none, (some 0), []⟩,
 oP 6 (.fieldAddr 1 (.t 1)),
 ⟨(some 7), .load false 1 (.t 6), none, none, [0, 1]⟩,
 ⟨(some 8), .append true 1 8 (.t 5) (.t 7), none, (some 1), []⟩,
 oP 9 (.fieldAddr 2 (.t 1)),
 ⟨(some 10), .load false 1 (.t 9), none, none, [0, 1]⟩,
 oP 11 (.build [.int .i64 0, .nils, .int .i64 0] [(0, 1, (.t 4)), (1, 1, (.t 8)), (2, 1, (.t 10))]),
 ⟨none, .store 3 (.t 2) (.t 11), none, none, []⟩])
 (.ret))⟩
/-- almadraba/almadrabaref09.IsBid -/
def f11 : AFn := ⟨11, [.tmp 4],
 .seq (.region 0 [oQ 2 (.box (.t 0)),
 oP 4 (.move (.c (.bool false)))])
 (.seq (.region 0 [oP 5 (.move (.t 1)),
 oP 6 (.fieldAddr 7 (.t 2)),
 oQ 7 (.load false 1 (.t 6)),
 oP 8 (.lenS (.t 7)),
 oP 9 (.bin .sub (.t 8) (.c (.int .i64 1))),
 oQ 10 (.call 1 30 [(.t 5), (.c (.int .i64 0)), (.t 9)]),
 oP 4 (.move (.t 10))])
 (.ret))⟩
/-- almadraba/almadrabaref09.Offered -/
def f12 : AFn := ⟨24, [.cell true 8 6],
 .seq (.region 0 [oQ 3 (.box (.t 0)),
 oQ 6 (.alloc [.nils, .int .i64 0, .nils, .nils, .nils, .int .i64 0, .int .i64 0, .nils])])
 (.seq (.region 0 [oQ 9 (.load true 8 (.t 3)),
 oQ 10 (.call 2 9 [(.t 9)]),
 oQ 7 (.alloc [.nils, .int .i64 0, .nils, .nils, .nils, .int .i64 0, .int .i64 0, .nils]),
 ⟨none, .store 8 (.t 7) (.t 10), none, none, []⟩])
 (.seq (.region 0 [oP 11 (.fieldAddr 7 (.t 7)),
 oQ 12 (.load false 1 (.t 11)),
 oP 13 (.move (.t 1)),
 oP 14 (.idxSl 3 (.t 12) (.t 13)),
 oQ 15 (.load true 3 (.t 14)),
 oQ 8 (.alloc [.int .i64 0, .nils, .int .i64 0]),
 ⟨none, .store 3 (.t 8) (.t 15), none, none, []⟩])
 (.seq (.region 0 [oP 16 (.move (.t 2)),
 oP 17 (.fieldAddr 2 (.t 8)),
 ⟨none, .store 1 (.t 17) (.t 16), none, none, []⟩])
 (.seq (.region 0 [oP 18 (.fieldAddr 7 (.t 7)),
 oQ 19 (.load false 1 (.t 18)),
 oP 20 (.move (.t 1)),
 oQ 21 (.load true 3 (.t 8)),
 oP 22 (.idxSl 3 (.t 19) (.t 20)),
 ⟨none, .store 3 (.t 22) (.t 21), none, none, []⟩])
 (.seq (.region 0 [oQ 23 (.load true 8 (.t 7)),
 ⟨none, .store 8 (.t 6) (.t 23), none, none, []⟩])
 (.ret))))))⟩
/-- almadraba/sales.Won -/
def f13 : AFn := ⟨31, [.tmp 4, .tmp 5],
 .seq (.region 0 [oQ 2 (.box (.t 0)),
 oP 4 (.move (.c (.int .i64 0))),
 oP 5 (.move (.c (.int .i64 0)))])
 (.seq (.seq (.region 0 [oQ 9 (.load true 8 (.t 2)),
 oP 10 (.move (.t 1)),
 oQ 11 (.call 1 31 [(.t 9), (.t 10)]),
 oP 6 (.move (.t 11))])
 (.seq (.region 0 [oP 12 (.move (.t 6)),
 oP 13 (.bin .neq (.t 12) (.c (.int .i64 0)))])
 (.cond (.t 13) (.seq (.region 0 [oP 14 (.move (.t 6)),
 oP 4 (.move (.c (.int .i64 0))),
 oP 5 (.move (.t 14))])
 (.ret))
 (.skip))))
 (.seq (.region 0 [oQ 16 (.load true 8 (.t 2)),
 oQ 17 (.call 2 32 [(.t 16)]),
 oP 18 (.move (.t 1)),
 oQ 19 (.call 2 34 [(.t 18)]),
 oQ 20 (.call 3 33 [(.t 17), (.t 19)]),
 oP 15 (.move (.t 20)),
 oP 21 (.extract (.t 15) 0),
 oP 22 (.extract (.t 15) 1),
 oP 7 (.move (.t 21)),
 oP 8 (.move (.t 22))])
 (.seq (.block 0 (.seq (.region 0 [oP 24 (.move (.t 7)),
 oP 25 (.move (.t 8)),
 oP 26 (.bin .lss (.t 24) (.t 25)),
 oP 23 (.move (.t 26))])
 (.cond (.t 23) (.seq (.region 0 [oP 4 (.move (.c (.int .i64 2))),
 oP 5 (.move (.c (.int .i64 0)))])
 (.ret))
 (.seq (.region 0 [oP 28 (.move (.t 7)),
 oP 29 (.move (.t 8)),
 oP 30 (.bin .gtr (.t 28) (.t 29)),
 oP 27 (.move (.t 30))])
 (.cond (.t 27) (.seq (.region 0 [oP 4 (.move (.c (.int .i64 1))),
 oP 5 (.move (.c (.int .i64 0)))])
 (.ret))
 (.skip))))))
 (.seq (.region 0 [oP 4 (.move (.c (.int .i64 3))),
 oP 5 (.move (.c (.int .i64 0)))])
 (.ret)))))⟩
/-- almadraba/sales.Need -/
def f14 : AFn := ⟨19, [.tmp 4, .tmp 5],
 .seq (.region 0 [oQ 2 (.box (.t 0)),
 oP 4 (.move (.c (.int .i64 0))),
 oP 5 (.move (.c (.int .i64 0)))])
 (.seq (.seq (.region 0 [oQ 7 (.load true 8 (.t 2)),
 oP 8 (.move (.t 1)),
 oQ 9 (.call 1 31 [(.t 7), (.t 8)]),
 oP 6 (.move (.t 9))])
 (.seq (.region 0 [oP 10 (.move (.t 6)),
 oP 11 (.bin .neq (.t 10) (.c (.int .i64 0)))])
 (.cond (.t 11) (.seq (.region 0 [oP 12 (.move (.t 6)),
 oP 4 (.move (.c (.int .i64 0))),
 oP 5 (.move (.t 12))])
 (.ret))
 (.skip))))
 (.seq (.region 0 [oQ 13 (.load true 8 (.t 2)),
 oQ 14 (.call 2 32 [(.t 13)]),
 oP 15 (.move (.t 1)),
 oQ 16 (.call 3 35 [(.t 14), (.t 15)]),
 oP 17 (.extract (.t 16) 0),
 oP 18 (.extract (.t 16) 1),
 oP 4 (.move (.t 17)),
 oP 5 (.move (.t 18))])
 (.ret)))⟩
/-- almadraba/almadrabaref01.Within -/
def f15 : AFn := ⟨15, [.tmp 6],
 .seq (.region 0 [oP 6 (.move (.c (.bool false)))])
 (.seq (.region 0 [oP 7 (.move (.t 1)),
 oP 8 (.move (.t 0)),
 oP 9 (.bin .leq (.t 7) (.t 8)),
 oP 10 (.move (.t 9)),
 oG 11 10 true (.move (.t 0)),
 oG 12 10 true (.move (.t 2)),
 oG 13 10 true (.bin .leq (.t 11) (.t 12)),
 oP 14 (.pick (.t 10) (.t 13) (.c (.bool false))),
 oP 6 (.move (.t 14))])
 (.ret))⟩
/-- almadraba/almadrabaref09.OnDay -/
def f17 : AFn := ⟨11, [.cell true 8 4],
 .seq (.region 0 [oQ 2 (.box (.t 0)),
 oQ 4 (.alloc [.nils, .int .i64 0, .nils, .nils, .nils, .int .i64 0, .int .i64 0, .nils])])
 (.seq (.region 0 [oQ 6 (.load true 8 (.t 2)),
 oQ 7 (.call 1 9 [(.t 6)]),
 oQ 5 (.alloc [.nils, .int .i64 0, .nils, .nils, .nils, .int .i64 0, .int .i64 0, .nils]),
 ⟨none, .store 8 (.t 5) (.t 7), none, none, []⟩])
 (.seq (.region 0 [oP 8 (.move (.t 1)),
 oP 9 (.fieldAddr 5 (.t 5)),
 ⟨none, .store 1 (.t 9) (.t 8), none, none, []⟩])
 (.seq (.region 0 [oQ 10 (.load true 8 (.t 5)),
 ⟨none, .store 8 (.t 4) (.t 10), none, none, []⟩])
 (.ret))))⟩
/-- almadraba/sales.Ready -/
def f18 : AFn := ⟨13, [.tmp 2, .tmp 3],
 .seq (.region 0 [oQ 1 (.box (.t 0)),
 oP 2 (.move (.c (.nils))),
 oP 3 (.move (.c (.int .i64 0)))])
 (.seq (.seq (.region 0 [oQ 5 (.load true 8 (.t 1)),
 oQ 6 (.call 1 36 [(.t 5)]),
 oP 4 (.move (.t 6))])
 (.seq (.region 0 [oP 7 (.move (.t 4)),
 oP 8 (.bin .neq (.t 7) (.c (.int .i64 0)))])
 (.cond (.t 8) (.seq (.region 0 [oP 9 (.move (.t 4)),
 oP 2 (.move (.c (.nils))),
 oP 3 (.move (.t 9))])
 (.ret))
 (.skip))))
 (.seq (.region 0 [oQ 10 (.load true 8 (.t 1)),
 oQ 11 (.call 2 32 [(.t 10)]),
 oQ 12 (.call 0 37 [(.t 11)]),
 oP 2 (.move (.t 12)),
 oP 3 (.move (.c (.int .i64 0)))])
 (.ret)))⟩
/-- almadraba/sales.When -/
def f20 : AFn := ⟨13, [.tmp 2, .tmp 3],
 .seq (.region 0 [oQ 1 (.box (.t 0)),
 oP 2 (.move (.c (.int .i64 0))),
 oP 3 (.move (.c (.int .i64 0)))])
 (.seq (.seq (.region 0 [oQ 5 (.load true 8 (.t 1)),
 oQ 6 (.call 1 36 [(.t 5)]),
 oP 4 (.move (.t 6))])
 (.seq (.region 0 [oP 7 (.move (.t 4)),
 oP 8 (.bin .neq (.t 7) (.c (.int .i64 0)))])
 (.cond (.t 8) (.seq (.region 0 [oP 9 (.move (.t 4)),
 oP 2 (.move (.c (.int .i64 0))),
 oP 3 (.move (.t 9))])
 (.ret))
 (.skip))))
 (.seq (.region 0 [oQ 10 (.load true 8 (.t 1)),
 oQ 11 (.call 2 32 [(.t 10)]),
 oQ 12 (.call 0 41 [(.t 11)]),
 oP 2 (.move (.t 12)),
 oP 3 (.move (.c (.int .i64 0)))])
 (.ret)))⟩
/-- almadraba/almadrabalaw09.Huge -/
def f22 : AFn := ⟨34, [.tmp 2],
 .seq (.region 0 [oQ 1 (.box (.t 0)),
 oP 2 (.move (.c (.bool false)))])
 (.seq (.seq (.region 0 [oP 4 (.fieldAddr 0 (.t 1)),
 oQ 5 (.load true 4 (.t 4)),
 oQ 6 (.call 1 42 [(.t 5)]),
 oP 7 (.move (.t 6)),
 oG 8 7 false (.fieldAddr 4 (.t 1)),
 ⟨(some 9), .load false 1 (.t 8), (some (7, false)), none, []⟩,
 oG 10 7 false (.lenS (.t 9)),
 oG 11 7 false (.bin .gtr (.t 10) (.c (.int .i64 40))),
 oP 12 (.pick (.t 7) (.c (.bool true)) (.t 11)),
 oP 13 (.move (.t 12)),
 oG 14 13 false (.fieldAddr 7 (.t 1)),
 ⟨(some 15), .load false 1 (.t 14), (some (13, false)), none, []⟩,
 oG 16 13 false (.lenS (.t 15)),
 oG 17 13 false (.bin .gtr (.t 16) (.c (.int .i64 40))),
 oP 18 (.pick (.t 13) (.c (.bool true)) (.t 17))])
 (.cond (.t 18) (.seq (.region 0 [oP 2 (.move (.c (.bool true)))])
 (.ret))
 (.skip)))
 (.seq (.seq (.region 0 [oP 3 (.move (.c (.int .i64 0)))])
 (.block 0 (.loop (.seq (.seq (.region 0 [oP 19 (.move (.t 3)),
 oP 20 (.fieldAddr 7 (.t 1)),
 oQ 21 (.load false 1 (.t 20)),
 oP 22 (.lenS (.t 21)),
 oP 23 (.bin .lss (.t 19) (.t 22))])
 (.cond (.t 23) (.skip)
 (.exit 0)))
 (.seq (.block 1 (.seq (.region 0 [oP 26 (.fieldAddr 7 (.t 1)),
 oQ 27 (.load false 1 (.t 26)),
 oP 28 (.move (.t 3)),
 oP 29 (.idxSl 3 (.t 27) (.t 28)),
 oP 30 (.fieldAddr 1 (.t 29)),
 oQ 31 (.load false 1 (.t 30)),
 oP 32 (.lenS (.t 31)),
 oP 33 (.bin .gtr (.t 32) (.c (.int .i64 40)))])
 (.cond (.t 33) (.seq (.region 0 [oP 2 (.move (.c (.bool true)))])
 (.ret))
 (.skip))))
 (.region 0 [oP 24 (.move (.t 3)),
 oP 25 (.bin .add (.t 24) (.c (.int .i64 1))),
 oP 3 (.move (.t 25))]))))))
 (.seq (.region 0 [oP 2 (.move (.c (.bool false)))])
 (.ret))))⟩
/-- almadraba/almadrabaref09.Check -/
def f23 : AFn := ⟨73, [.tmp 2],
 .seq (.region 0 [oQ 1 (.box (.t 0)),
 oP 2 (.move (.c (.int .i64 0)))])
 (.seq (.seq (.region 0 [oP 5 (.fieldAddr 0 (.t 1)),
 oQ 6 (.load true 4 (.t 5)),
 oQ 7 (.call 1 43 [(.t 6)]),
 oP 8 (.bin .neq (.t 7) (.c (.int .i64 0))),
 oP 9 (.move (.t 8)),
 oG 10 9 false (.fieldAddr 0 (.t 1)),
 ⟨(some 11), .load true 4 (.t 10), (some (9, false)), none, []⟩,
 oG 12 9 false (.fieldAddr 4 (.t 1)),
 ⟨(some 13), .load false 1 (.t 12), (some (9, false)), none, []⟩,
 ⟨(some 14), .call 1 44 [(.t 11), (.t 13)], (some (9, false)), none, []⟩,
 oG 15 9 false (.un .not (.t 14)),
 oP 16 (.pick (.t 9) (.c (.bool true)) (.t 15))])
 (.cond (.t 16) (.seq (.region 0 [oP 2 (.move (.c (.int .i64 90)))])
 (.ret))
 (.skip)))
 (.seq (.seq (.region 0 [oP 17 (.fieldAddr 5 (.t 1)),
 oQ 18 (.load false 1 (.t 17)),
 oQ 19 (.call 1 30 [(.t 18), (.c (.int .i64 0)), (.c (.int .i64 20))]),
 oP 20 (.un .not (.t 19)),
 oP 21 (.move (.t 20)),
 oG 22 21 false (.fieldAddr 6 (.t 1)),
 ⟨(some 23), .load false 1 (.t 22), (some (21, false)), none, []⟩,
 ⟨(some 24), .call 1 30 [(.t 23), (.c (.int .i64 0)), (.c (.int .i64 4))], (some (21, false)), none, []⟩,
 oG 25 21 false (.un .not (.t 24)),
 oP 26 (.pick (.t 21) (.c (.bool true)) (.t 25)),
 oP 27 (.move (.t 26)),
 oG 28 27 false (.fieldAddr 7 (.t 1)),
 ⟨(some 29), .load false 1 (.t 28), (some (27, false)), none, []⟩,
 oG 30 27 false (.lenS (.t 29)),
 oG 31 27 false (.bin .gtr (.t 30) (.c (.int .i64 8))),
 oP 32 (.pick (.t 27) (.c (.bool true)) (.t 31))])
 (.cond (.t 32) (.seq (.region 0 [oP 2 (.move (.c (.int .i64 90)))])
 (.ret))
 (.skip)))
 (.seq (.seq (.region 0 [oP 3 (.move (.c (.int .i64 0)))])
 (.block 0 (.loop (.seq (.seq (.region 0 [oP 33 (.move (.t 3)),
 oP 34 (.fieldAddr 7 (.t 1)),
 oQ 35 (.load false 1 (.t 34)),
 oP 36 (.lenS (.t 35)),
 oP 37 (.bin .lss (.t 33) (.t 36))])
 (.cond (.t 37) (.skip)
 (.exit 0)))
 (.seq (.block 1 (.seq (.region 0 [oP 40 (.fieldAddr 7 (.t 1)),
 oQ 41 (.load false 1 (.t 40)),
 oP 42 (.move (.t 3)),
 oP 43 (.idxSl 3 (.t 41) (.t 42)),
 oQ 44 (.load true 3 (.t 43)),
 oQ 4 (.alloc [.int .i64 0, .nils, .int .i64 0]),
 ⟨none, .store 3 (.t 4) (.t 44), none, none, []⟩])
 (.seq (.region 0 [oQ 45 (.load true 8 (.t 1)),
 oP 46 (.fieldAddr 0 (.t 4)),
 oQ 47 (.load false 1 (.t 46)),
 oQ 48 (.call 1 45 [(.t 45), (.t 47)]),
 oP 49 (.un .not (.t 48)),
 oP 50 (.move (.t 49)),
 oG 51 50 false (.fieldAddr 1 (.t 4)),
 ⟨(some 52), .load false 1 (.t 51), (some (50, false)), none, []⟩,
 oG 53 50 false (.lenS (.t 52)),
 oG 54 50 false (.bin .eql (.t 53) (.c (.int .i64 0))),
 oP 55 (.pick (.t 50) (.c (.bool true)) (.t 54)),
 oP 56 (.move (.t 55)),
 oG 57 56 false (.fieldAddr 1 (.t 4)),
 ⟨(some 58), .load false 1 (.t 57), (some (56, false)), none, []⟩,
 oG 59 56 false (.fieldAddr 0 (.t 1)),
 oG 60 56 false (.fieldAddr 3 (.t 59)),
 ⟨(some 61), .load false 1 (.t 60), (some (56, false)), none, []⟩,
 oG 62 56 false (.lenS (.t 61)),
 oG 63 56 false (.bin .sub (.t 62) (.c (.int .i64 1))),
 ⟨(some 64), .call 1 46 [(.t 58), (.c (.int .i64 0)), (.t 63)], (some (56, false)), none, []⟩,
 oG 65 56 false (.un .not (.t 64)),
 oP 66 (.pick (.t 56) (.c (.bool true)) (.t 65)),
 oP 67 (.move (.t 66)),
 oG 68 67 false (.fieldAddr 2 (.t 4)),
 ⟨(some 69), .load false 1 (.t 68), (some (67, false)), none, []⟩,
 ⟨(some 70), .call 1 30 [(.t 69), (.c (.int .i64 0)), (.c (.int .i64 99))], (some (67, false)), none, []⟩,
 oG 71 67 false (.un .not (.t 70)),
 oP 72 (.pick (.t 67) (.c (.bool true)) (.t 71))])
 (.cond (.t 72) (.seq (.region 0 [oP 2 (.move (.c (.int .i64 90)))])
 (.ret))
 (.skip)))))
 (.region 0 [oP 38 (.move (.t 3)),
 oP 39 (.bin .add (.t 38) (.c (.int .i64 1))),
 oP 3 (.move (.t 39))]))))))
 (.seq (.region 0 [oP 2 (.move (.c (.int .i64 0)))])
 (.ret)))))⟩
/-- almadraba/almadrabalaw09.Example -/
def f24 : AFn := ⟨27, [.cell true 8 0, .cell true 8 1],
 .seq (.region 0 [oQ 0 (.alloc [.nils, .int .i64 0, .nils, .nils, .nils, .int .i64 0, .int .i64 0, .nils]),
 oQ 1 (.alloc [.nils, .int .i64 0, .nils, .nils, .nils, .int .i64 0, .int .i64 0, .nils])])
 (.seq (.region 0 [oP 3 (.build [.int .i64 0, .int .i64 0] [(0, 1, (.c (.int .i64 3))), (1, 1, (.c (.int .i64 10)))]),
 oP 4 (.build [.int .i64 0, .int .i64 0] [(0, 1, (.c (.int .i64 5))), (1, 1, (.c (.int .i64 4)))]),
 oQ 5 (.litS 2 2 [.int .i64 0, .int .i64 0] [(0, (.t 3)), (1, (.t 4))]),
 oP 6 (.build [.int .i64 0, .int .i64 0] [(0, 1, (.c (.int .i64 0))), (1, 1, (.c (.int .i64 10)))]),
 oP 7 (.build [.int .i64 0, .int .i64 0] [(0, 1, (.c (.int .i64 0))), (1, 1, (.c (.int .i64 15)))]),
 oP 8 (.build [.int .i64 0, .int .i64 0] [(0, 1, (.c (.int .i64 1))), (1, 1, (.c (.int .i64 8)))]),
 oQ 9 (.litS 2 3 [.int .i64 0, .int .i64 0] [(0, (.t 6)), (1, (.t 7)), (2, (.t 8))]),
 oQ 10 (.litS 1 2 [.int .i64 0] [(0, (.c (.int .i64 40))), (1, (.c (.int .i64 20)))]),
 oP 11 (.build [.nils, .int .i64 0, .nils, .nils] [(0, 1, (.t 5)), (1, 1, (.c (.int .i64 2))), (2, 1, (.t 9)), (3, 1, (.t 10))]),
 oQ 2 (.alloc [.nils, .int .i64 0, .nils, .nils]),
 ⟨none, .store 4 (.t 2) (.t 11), none, none, []⟩])
 (.seq (.region 0 [oQ 12 (.load true 4 (.t 2)),
 oQ 13 (.litS 1 3 [.int .i64 0] [(0, (.c (.int .i64 0))), (1, (.c (.int .i64 0))), (2, (.c (.int .i64 1)))]),
 oQ 14 (.litS 1 1 [.int .i64 0] [(0, (.c (.int .i64 0)))]),
 oP 15 (.build [.int .i64 0, .nils, .int .i64 0] [(0, 1, (.c (.int .i64 0))), (1, 1, (.t 14)), (2, 1, (.c (.int .i64 30)))]),
 oQ 16 (.litS 1 2 [.int .i64 0] [(0, (.c (.int .i64 0))), (1, (.c (.int .i64 1)))]),
 oP 17 (.build [.int .i64 0, .nils, .int .i64 0] [(0, 1, (.c (.int .i64 1))), (1, 1, (.t 16)), (2, 1, (.c (.int .i64 45)))]),
 oQ 18 (.litS 1 1 [.int .i64 0] [(0, (.c (.int .i64 1)))]),
 oP 19 (.build [.int .i64 0, .nils, .int .i64 0] [(0, 1, (.c (.int .i64 2))), (1, 1, (.t 18)), (2, 1, (.c (.int .i64 12)))]),
 oQ 20 (.litS 1 1 [.int .i64 0] [(0, (.c (.int .i64 1)))]),
 oP 21 (.build [.int .i64 0, .nils, .int .i64 0] [(0, 1, (.c (.int .i64 0))), (1, 1, (.t 20)), (2, 1, (.c (.int .i64 20)))]),
 oQ 22 (.litS 3 4 [.int .i64 0, .nils, .int .i64 0] [(0, (.t 15)), (1, (.t 17)), (2, (.t 19)), (3, (.t 21))]),
 oP 23 (.build [.nils, .int .i64 0, .nils, .nils, .nils, .int .i64 0, .int .i64 0, .nils] [(0, 4, (.t 12)), (4, 1, (.t 13)), (5, 1, (.c (.int .i64 10))), (6, 1, (.c (.int .i64 3))), (7, 1, (.t 22))]),
 ⟨none, .store 8 (.t 0) (.t 23), none, none, []⟩])
 (.seq (.region 0 [oQ 24 (.load true 8 (.t 0)),
 oQ 25 (.load true 8 (.t 0)),
 oQ 26 (.call 1 17 [(.t 25), (.c (.int .i64 5))]),
 ⟨none, .store 8 (.t 0) (.t 24), none, none, []⟩,
 ⟨none, .store 8 (.t 1) (.t 26), none, none, []⟩])
 (.ret))))⟩
/-- almadraba/sales.Most -/
def f25 : AFn := ⟨13, [.tmp 2, .tmp 3],
 .seq (.region 0 [oQ 1 (.box (.t 0)),
 oP 2 (.move (.c (.int .i64 0))),
 oP 3 (.move (.c (.int .i64 0)))])
 (.seq (.seq (.region 0 [oQ 5 (.load true 8 (.t 1)),
 oQ 6 (.call 1 36 [(.t 5)]),
 oP 4 (.move (.t 6))])
 (.seq (.region 0 [oP 7 (.move (.t 4)),
 oP 8 (.bin .neq (.t 7) (.c (.int .i64 0)))])
 (.cond (.t 8) (.seq (.region 0 [oP 9 (.move (.t 4)),
 oP 2 (.move (.c (.int .i64 0))),
 oP 3 (.move (.t 9))])
 (.ret))
 (.skip))))
 (.seq (.region 0 [oQ 10 (.load true 8 (.t 1)),
 oQ 11 (.call 2 32 [(.t 10)]),
 oQ 12 (.call 0 40 [(.t 11)]),
 oP 2 (.move (.t 12)),
 oP 3 (.move (.c (.int .i64 0)))])
 (.ret)))⟩
/-- almadraba/sales.Winners -/
def f26 : AFn := ⟨19, [.tmp 2, .tmp 3],
 .seq (.region 0 [oQ 1 (.box (.t 0)),
 oP 2 (.move (.c (.nils))),
 oP 3 (.move (.c (.int .i64 0)))])
 (.seq (.seq (.region 0 [oQ 7 (.load true 8 (.t 1)),
 oQ 8 (.call 1 36 [(.t 7)]),
 oP 4 (.move (.t 8))])
 (.seq (.region 0 [oP 9 (.move (.t 4)),
 oP 10 (.bin .neq (.t 9) (.c (.int .i64 0)))])
 (.cond (.t 10) (.seq (.region 0 [oP 11 (.move (.t 4)),
 oP 2 (.move (.c (.nils))),
 oP 3 (.move (.t 11))])
 (.ret))
 (.skip))))
 (.seq (.region 0 [oQ 13 (.load true 8 (.t 1)),
 oQ 14 (.call 2 32 [(.t 13)]),
 oQ 15 (.call 3 47 [(.t 14), (.c (.fn 48 [] []))]),
 oP 12 (.move (.t 15)),
 oP 16 (.extract (.t 12) 0),
 oP 17 (.extract (.t 12) 1),
 oP 5 (.move (.t 16)),
 oP 6 (.move (.t 17))])
 (.seq (.region 0 [oP 18 (.move (.t 5)),
 oP 2 (.move (.t 18)),
 oP 3 (.move (.c (.int .i64 0)))])
 (.ret))))⟩
/-- almadraba/sales.Pays -/
def f27 : AFn := ⟨20, [.tmp 4, .tmp 5],
 .seq (.region 0 [oQ 2 (.box (.t 0)),
 oP 4 (.move (.c (.int .i64 0))),
 oP 5 (.move (.c (.int .i64 0)))])
 (.seq (.seq (.region 0 [oQ 7 (.load true 8 (.t 2)),
 oQ 8 (.call 1 36 [(.t 7)]),
 oP 6 (.move (.t 8))])
 (.seq (.region 0 [oP 9 (.move (.t 6)),
 oP 10 (.bin .neq (.t 9) (.c (.int .i64 0)))])
 (.cond (.t 10) (.seq (.region 0 [oP 11 (.move (.t 6)),
 oP 4 (.move (.c (.int .i64 0))),
 oP 5 (.move (.t 11))])
 (.ret))
 (.skip))))
 (.seq (.seq (.region 0 [oQ 12 (.load true 8 (.t 2)),
 oP 13 (.move (.t 1)),
 oQ 14 (.call 1 49 [(.t 12), (.t 13)]),
 oP 15 (.un .not (.t 14))])
 (.cond (.t 15) (.seq (.region 0 [oP 4 (.move (.c (.int .i64 0))),
 oP 5 (.move (.c (.int .i64 1)))])
 (.ret))
 (.skip)))
 (.seq (.region 0 [oQ 16 (.load true 8 (.t 2)),
 oQ 17 (.call 2 32 [(.t 16)]),
 oP 18 (.move (.t 1)),
 oQ 19 (.call 3 50 [(.t 17), (.t 18)]),
 oP 4 (.move (.t 19)),
 oP 5 (.move (.c (.int .i64 0)))])
 (.ret))))⟩
/-- almadraba/almadrabaref01.SameInts -/
def f28 : AFn := ⟨26, [.tmp 4],
 .seq (.region 0 [oP 4 (.move (.c (.bool false)))])
 (.seq (.seq (.region 0 [oP 6 (.move (.t 0)),
 oP 7 (.lenS (.t 6)),
 oP 8 (.move (.t 1)),
 oP 9 (.lenS (.t 8)),
 oP 10 (.bin .neq (.t 7) (.t 9))])
 (.cond (.t 10) (.seq (.region 0 [oP 4 (.move (.c (.bool false)))])
 (.ret))
 (.skip)))
 (.seq (.seq (.region 0 [oP 5 (.move (.c (.int .i64 0)))])
 (.block 0 (.loop (.seq (.seq (.region 0 [oP 11 (.move (.t 5)),
 oP 12 (.move (.t 0)),
 oP 13 (.lenS (.t 12)),
 oP 14 (.bin .lss (.t 11) (.t 13))])
 (.cond (.t 14) (.skip)
 (.exit 0)))
 (.seq (.block 1 (.seq (.region 0 [oP 17 (.move (.t 0)),
 oP 18 (.move (.t 5)),
 oP 19 (.idxSl 1 (.t 17) (.t 18)),
 oQ 20 (.load false 1 (.t 19)),
 oP 21 (.move (.t 1)),
 oP 22 (.move (.t 5)),
 oP 23 (.idxSl 1 (.t 21) (.t 22)),
 oQ 24 (.load false 1 (.t 23)),
 oP 25 (.bin .neq (.t 20) (.t 24))])
 (.cond (.t 25) (.seq (.region 0 [oP 4 (.move (.c (.bool false)))])
 (.ret))
 (.skip))))
 (.region 0 [oP 15 (.move (.t 5)),
 oP 16 (.bin .add (.t 15) (.c (.int .i64 1))),
 oP 5 (.move (.t 16))]))))))
 (.seq (.region 0 [oP 4 (.move (.c (.bool true)))])
 (.ret))))⟩
/-- almadraba/almadrabaref08.Copy -/
def f29 : AFn := ⟨21, [.cell true 4 2],
 .seq (.region 0 [oQ 1 (.box (.t 0)),
 oQ 2 (.alloc [.nils, .int .i64 0, .nils, .nils])])
 (.seq (.region 0 [oQ 4 (.load true 4 (.t 1)),
 oQ 3 (.alloc [.nils, .int .i64 0, .nils, .nils]),
 ⟨none, .store 4 (.t 3) (.t 4), none, none, []⟩])
 (.seq (.region 0 [oQ 5 (.buildSlice 2 0 [.int .i64 0, .int .i64 0] []),
 oP 6 (.fieldAddr 0 (.t 1)),
 oQ 7 (.load false 1 (.t 6)),
 oQ 8 (.append false 2 16 (.t 5) (.t 7)),
 oP 9 (.fieldAddr 0 (.t 3)),
 ⟨none, .store 1 (.t 9) (.t 8), none, none, []⟩])
 (.seq (.region 0 [oQ 10 (.buildSlice 2 0 [.int .i64 0, .int .i64 0] []),
 oP 11 (.fieldAddr 2 (.t 1)),
 oQ 12 (.load false 1 (.t 11)),
 oQ 13 (.append false 2 16 (.t 10) (.t 12)),
 oP 14 (.fieldAddr 2 (.t 3)),
 ⟨none, .store 1 (.t 14) (.t 13), none, none, []⟩])
 (.seq (.region 0 [oQ 15 (.buildSlice 1 0 [.int .i64 0] []),
 oP 16 (.fieldAddr 3 (.t 1)),
 oQ 17 (.load false 1 (.t 16)),
 oQ 18 (.append false 1 8 (.t 15) (.t 17)),
 oP 19 (.fieldAddr 3 (.t 3)),
 ⟨none, .store 1 (.t 19) (.t 18), none, none, []⟩])
 (.seq (.region 0 [oQ 20 (.load true 4 (.t 3)),
 ⟨none, .store 4 (.t 2) (.t 20), none, none, []⟩])
 (.ret))))))⟩
/-- almadraba/almadrabaref09.within -/
def f30 : AFn := ⟨11, [.tmp 6],
 .seq (.region 0 [oP 6 (.move (.c (.bool false)))])
 (.seq (.region 0 [oP 7 (.move (.t 0)),
 oP 8 (.move (.t 1)),
 oP 9 (.move (.t 2)),
 oQ 10 (.call 1 15 [(.t 7), (.t 8), (.t 9)]),
 oP 6 (.move (.t 10))])
 (.ret))⟩
/-- almadraba/sales.fitBid -/
def f31 : AFn := ⟨17, [.tmp 4],
 .seq (.region 0 [oQ 2 (.box (.t 0)),
 oP 4 (.move (.c (.int .i64 0)))])
 (.seq (.region 0 [oQ 6 (.load true 8 (.t 2)),
 oQ 7 (.call 1 36 [(.t 6)]),
 oP 5 (.move (.t 7))])
 (.seq (.seq (.region 0 [oP 8 (.move (.t 5)),
 oP 9 (.bin .eql (.t 8) (.c (.int .i64 0))),
 oP 10 (.move (.t 9)),
 ⟨(some 11), .load true 8 (.t 2), (some (10, true)), none, []⟩,
 oG 12 10 true (.move (.t 1)),
 ⟨(some 13), .call 1 51 [(.t 11), (.t 12)], (some (10, true)), none, []⟩,
 oG 14 10 true (.un .not (.t 13)),
 oP 15 (.pick (.t 10) (.t 14) (.c (.bool false)))])
 (.cond (.t 15) (.seq (.region 0 [oP 4 (.move (.c (.int .i64 1)))])
 (.ret))
 (.skip)))
 (.seq (.region 0 [oP 16 (.move (.t 5)),
 oP 4 (.move (.t 16))])
 (.ret))))⟩
/-- almadraba/sales.open -/
def f32 : AFn := ⟨11, [.cell true 13 2],
 .seq (.region 0 [oQ 1 (.box (.t 0)),
 oQ 2 (.alloc [.nils, .int .i64 0, .nils, .nils, .nils, .int .i64 0, .int .i64 0, .nils, .bool false, .bool false, .bool false, .bool false, .nilm])])
 (.seq (.region 0 [oQ 3 (.load true 8 (.t 1)),
 oQ 4 (.makeMap (.a [none, none, none, none])),
 oP 5 (.build [.nils, .int .i64 0, .nils, .nils, .nils, .int .i64 0, .int .i64 0, .nils, .bool false, .bool false, .bool false, .bool false, .nilm] [(0, 8, (.t 3)), (12, 1, (.t 4))]),
 oP 6 (.fieldAddr 4 (.t 1)),
 oQ 7 (.load false 1 (.t 6)),
 oP 8 (.fieldAddr 5 (.t 1)),
 oQ 9 (.load false 1 (.t 8)),
 oQ 10 (.call 3 39 [(.t 5), (.t 7), (.t 9)]),
 ⟨none, .store 13 (.t 2) (.t 10), none, none, []⟩])
 (.ret))⟩
/-- (almadraba/sales.fair).split -/
def f33 : AFn := ⟨20, [.tmp 4, .tmp 5],
 .seq (.region 0 [oQ 2 (.box (.t 0)),
 oQ 3 (.box (.t 1)),
 oP 4 (.move (.c (.int .i64 0))),
 oP 5 (.move (.c (.int .i64 0)))])
 (.seq (.region 0 [oQ 7 (.load true 13 (.t 2)),
 oQ 8 (.load false 1 (.t 3)),
 oQ 9 (.call 3 47 [(.t 7), (.t 8)]),
 oP 6 (.move (.t 9)),
 oP 10 (.extract (.t 6) 0),
 oP 11 (.extract (.t 6) 1),
 oP 4 (.move (.t 11))])
 (.seq (.region 0 [oQ 13 (.load true 13 (.t 2)),
 oP 14 (.mkFn 52 [] [(.t 3)]),
 oQ 15 (.call 3 47 [(.t 13), (.t 14)]),
 oP 12 (.move (.t 15)),
 oP 16 (.extract (.t 12) 0),
 oP 17 (.extract (.t 12) 1),
 oP 5 (.move (.t 17))])
 (.seq (.region 0 [oP 18 (.move (.t 4)),
 oP 19 (.move (.t 5)),
 oP 4 (.move (.t 18)),
 oP 5 (.move (.t 19))])
 (.ret))))⟩
/-- almadraba/sales.has -/
def f34 : AFn := ⟨4, [.tmp 2],
 .seq (.region 0 [oQ 1 (.box (.t 0)),
 oP 2 (.move (.c (.nilf)))])
 (.seq (.region 0 [oP 3 (.mkFn 53 [] [(.t 1)]),
 oP 2 (.move (.t 3))])
 (.ret))⟩
/-- (almadraba/sales.fair).need -/
def f35 : AFn := ⟨37, [.tmp 4, .tmp 5],
 .seq (.region 0 [oQ 2 (.box (.t 0)),
 oP 4 (.move (.c (.int .i64 0))),
 oP 5 (.move (.c (.int .i64 0)))])
 (.seq (.region 0 [oQ 11 (.load true 13 (.t 2)),
 oP 12 (.move (.t 1)),
 oQ 13 (.call 2 34 [(.t 12)]),
 oQ 14 (.call 3 33 [(.t 11), (.t 13)]),
 oP 10 (.move (.t 14)),
 oP 15 (.extract (.t 10) 0),
 oP 16 (.extract (.t 10) 1),
 oP 6 (.move (.t 15)),
 oP 7 (.move (.t 16))])
 (.seq (.region 0 [oP 17 (.move (.t 6)),
 oP 18 (.fieldAddr 0 (.t 2)),
 oP 19 (.fieldAddr 7 (.t 18)),
 oQ 20 (.load false 1 (.t 19)),
 oP 21 (.move (.t 1)),
 oP 22 (.idxSl 3 (.t 20) (.t 21)),
 oP 23 (.fieldAddr 2 (.t 22)),
 oQ 24 (.load false 1 (.t 23)),
 oP 25 (.bin .sub (.t 17) (.t 24)),
 oP 8 (.move (.t 25))])
 (.seq (.region 0 [oP 26 (.move (.t 7)),
 oP 27 (.move (.t 8)),
 oP 28 (.bin .sub (.t 26) (.t 27)),
 oP 29 (.minmax true (.c (.int .i64 0)) [(.t 28)]),
 oP 9 (.move (.t 29))])
 (.seq (.seq (.region 0 [oP 30 (.move (.t 6)),
 oP 31 (.bin .lss (.t 30) (.c (.int .i64 0))),
 oP 32 (.move (.t 31)),
 oG 33 32 false (.move (.t 9)),
 oG 34 32 false (.bin .gtr (.t 33) (.c (.int .i64 99))),
 oP 35 (.pick (.t 32) (.c (.bool true)) (.t 34))])
 (.cond (.t 35) (.seq (.region 0 [oP 4 (.move (.c (.int .i64 0))),
 oP 5 (.move (.c (.int .i64 3)))])
 (.ret))
 (.skip)))
 (.seq (.region 0 [oP 36 (.move (.t 9)),
 oP 4 (.move (.t 36)),
 oP 5 (.move (.c (.int .i64 0)))])
 (.ret))))))⟩
/-- almadraba/sales.Check -/
def f36 : AFn := ⟨6, [.tmp 2],
 .seq (.region 0 [oQ 1 (.box (.t 0)),
 oP 2 (.move (.c (.int .i64 0)))])
 (.seq (.seq (.region 0 [oQ 3 (.load true 8 (.t 1)),
 oQ 4 (.call 1 55 [(.t 3)]),
 oP 5 (.un .not (.t 4))])
 (.cond (.t 5) (.seq (.region 0 [oP 2 (.move (.c (.int .i64 90)))])
 (.ret))
 (.skip)))
 (.seq (.region 0 [oP 2 (.move (.c (.int .i64 0)))])
 (.ret)))⟩
/-- (almadraba/sales.fair).readies -/
def f37 : AFn := ⟨19, [.tmp 2],
 .seq (.region 0 [oQ 1 (.box (.t 0)),
 oP 2 (.move (.c (.nils)))])
 (.seq (.region 0 [oP 3 (.move (.c (.nils)))])
 (.seq (.seq (.region 0 [oP 6 (.fieldAddr 8 (.t 1)),
 oQ 7 (.load true 4 (.t 6)),
 oP 8 (.move (.c (.int .i64 0)))])
 (.block 0 (.loop (.seq (.region 0 [oP 9 (.bin .lss (.t 8) (.c (.int .i64 4)))])
 (.seq (.cond (.t 9) (.skip)
 (.exit 0))
 (.seq (.block 1 (.seq (.region 0 [oP 10 (.move (.t 8)),
 oP 11 (.idx false 4 1 (.t 7) (.t 8)),
 oP 4 (.move (.t 10)),
 oP 5 (.move (.t 11))])
 (.seq (.region 0 [oP 12 (.move (.t 5))])
 (.cond (.t 12) (.region 0 [oP 13 (.move (.t 3)),
 oP 14 (.move (.t 4)),
 oQ 15 (.litS 1 1 [.int .i64 0] [(0, (.t 14))]),
 oQ 16 (.append false 1 8 (.t 13) (.t 15)),
 oP 3 (.move (.t 16))])
 (.skip)))))
 (.region 0 [oP 17 (.bin .add (.t 8) (.c (.int .i64 1))),
 oP 8 (.move (.t 17))])))))))
 (.seq (.region 0 [oP 18 (.move (.t 3)),
 oP 2 (.move (.t 18))])
 (.ret))))⟩
/-- almadraba/sales.within -/
def f38 : AFn := ⟨15, [.tmp 6],
 .seq (.region 0 [oP 6 (.move (.c (.bool false)))])
 (.seq (.region 0 [oP 7 (.move (.t 1)),
 oP 8 (.move (.t 0)),
 oP 9 (.bin .leq (.t 7) (.t 8)),
 oP 10 (.move (.t 9)),
 oG 11 10 true (.move (.t 0)),
 oG 12 10 true (.move (.t 2)),
 oG 13 10 true (.bin .leq (.t 11) (.t 12)),
 oP 14 (.pick (.t 10) (.t 13) (.c (.bool false))),
 oP 6 (.move (.t 14))])
 (.ret))⟩
/-- (almadraba/sales.fair).with -/
def f39 : AFn := ⟨50, [.cell true 13 6],
 .seq (.region 0 [oQ 3 (.box (.t 0)),
 oQ 6 (.alloc [.nils, .int .i64 0, .nils, .nils, .nils, .int .i64 0, .int .i64 0, .nils, .bool false, .bool false, .bool false, .bool false, .nilm])])
 (.seq (.region 0 [oP 12 (.move (.t 1)),
 oP 13 (.move (.t 2)),
 oP 14 (.fieldAddr 0 (.t 3)),
 oP 15 (.fieldAddr 4 (.t 14)),
 ⟨none, .store 1 (.t 15) (.t 12), none, none, []⟩,
 oP 16 (.fieldAddr 0 (.t 3)),
 oP 17 (.fieldAddr 5 (.t 16)),
 ⟨none, .store 1 (.t 17) (.t 13), none, none, []⟩])
 (.seq (.seq (.region 0 [oP 18 (.fieldAddr 0 (.t 3)),
 oP 19 (.fieldAddr 0 (.t 18)),
 oP 20 (.fieldAddr 3 (.t 19)),
 oQ 21 (.load false 1 (.t 20)),
 oP 22 (.lenS (.t 21)),
 oP 23 (.move (.c (.int .i64 0)))])
 (.block 0 (.loop (.seq (.region 0 [oP 24 (.bin .lss (.t 23) (.t 22))])
 (.seq (.cond (.t 24) (.skip)
 (.exit 0))
 (.seq (.block 1 (.seq (.region 0 [oP 25 (.move (.t 23)),
 oP 7 (.move (.t 25))])
 (.seq (.region 0 [oP 27 (.fieldAddr 0 (.t 3)),
 oP 28 (.fieldAddr 0 (.t 27)),
 oQ 29 (.load true 4 (.t 28)),
 oP 30 (.move (.t 1)),
 oP 31 (.move (.t 7)),
 oQ 32 (.call 1 56 [(.t 29), (.t 30), (.t 31)]),
 oP 26 (.move (.t 32)),
 oP 33 (.extract (.t 26) 0),
 oP 34 (.extract (.t 26) 1),
 oP 35 (.extract (.t 26) 2),
 oP 36 (.extract (.t 26) 3),
 oP 8 (.move (.t 33)),
 oP 9 (.move (.t 34)),
 oP 10 (.move (.t 35)),
 oP 11 (.move (.t 36))])
 (.region 0 [oP 37 (.move (.t 7)),
 oP 38 (.move (.t 10)),
 oP 39 (.move (.t 2)),
 oP 40 (.bin .leq (.t 38) (.t 39)),
 oP 41 (.move (.t 40)),
 oG 42 41 true (.move (.t 1)),
 oG 43 41 true (.move (.t 7)),
 ⟨(some 44), .call 1 54 [(.t 42), (.t 43)], (some (41, true)), none, []⟩,
 oP 45 (.pick (.t 41) (.t 44) (.c (.bool false))),
 oP 46 (.fieldAddr 8 (.t 3)),
 oP 47 (.idxArr 4 1 (.t 46) (.t 37)),
 ⟨none, .store 1 (.t 47) (.t 45), none, none, []⟩]))))
 (.region 0 [oP 48 (.bin .add (.t 23) (.c (.int .i64 1))),
 oP 23 (.move (.t 48))])))))))
 (.seq (.region 0 [oQ 49 (.load true 13 (.t 3)),
 ⟨none, .store 13 (.t 6) (.t 49), none, none, []⟩])
 (.ret))))⟩
/-- (almadraba/sales.fair).most -/
def f40 : AFn := ⟨26, [.tmp 2],
 .seq (.region 0 [oQ 1 (.box (.t 0)),
 oP 2 (.move (.c (.int .i64 0)))])
 (.seq (.region 0 [oP 6 (.fieldAddr 12 (.t 1)),
 oQ 7 (.load false 1 (.t 6)),
 oP 8 (.fieldAddr 8 (.t 1)),
 oQ 9 (.load true 4 (.t 8)),
 oQ 10 (.mapGet (.a [none, none, none, none]) (.int .i64 0) true (.t 7) (.t 9)),
 oP 5 (.move (.t 10)),
 oP 11 (.extract (.t 5) 0),
 oP 12 (.extract (.t 5) 1),
 oP 3 (.move (.t 11)),
 oP 4 (.move (.t 12))])
 (.seq (.seq (.region 0 [oP 13 (.move (.t 4)),
 oP 14 (.un .not (.t 13))])
 (.cond (.t 14) (.seq (.region 0 [oQ 16 (.load true 13 (.t 1)),
 oQ 17 (.call 3 47 [(.t 16), (.c (.fn 48 [] []))]),
 oP 15 (.move (.t 17)),
 oP 18 (.extract (.t 15) 0),
 oP 19 (.extract (.t 15) 1),
 oP 3 (.move (.t 19))])
 (.region 0 [oP 20 (.fieldAddr 12 (.t 1)),
 oQ 21 (.load false 1 (.t 20)),
 oP 22 (.fieldAddr 8 (.t 1)),
 oQ 23 (.load true 4 (.t 22)),
 oP 24 (.move (.t 3)),
 ⟨none, .mapSet (.a [none, none, none, none]) (.t 21) (.t 23) (.t 24) [], none, none, []⟩]))
 (.skip)))
 (.seq (.region 0 [oP 25 (.move (.t 3)),
 oP 2 (.move (.t 25))])
 (.ret))))⟩
/-- (almadraba/sales.fair).when -/
def f41 : AFn := ⟨24, [.tmp 2],
 .seq (.region 0 [oQ 1 (.box (.t 0)),
 oP 2 (.move (.c (.int .i64 0)))])
 (.seq (.region 0 [oP 3 (.move (.c (.int .i64 0))),
 oP 4 (.move (.c (.int .i64 (-1))))])
 (.seq (.seq (.region 0 [oP 7 (.move (.c (.int .i64 0)))])
 (.block 0 (.loop (.seq (.region 0 [oP 8 (.bin .lss (.t 7) (.c (.int .i64 21)))])
 (.seq (.cond (.t 8) (.skip)
 (.exit 0))
 (.seq (.block 1 (.seq (.region 0 [oP 9 (.move (.t 7)),
 oP 5 (.move (.t 9))])
 (.seq (.region 0 [oQ 10 (.load true 13 (.t 1)),
 oP 11 (.fieldAddr 0 (.t 1)),
 oP 12 (.fieldAddr 4 (.t 11)),
 oQ 13 (.load false 1 (.t 12)),
 oP 14 (.move (.t 5)),
 oQ 15 (.call 3 39 [(.t 10), (.t 13), (.t 14)]),
 oQ 16 (.call 0 40 [(.t 15)]),
 oP 6 (.move (.t 16))])
 (.seq (.region 0 [oP 17 (.move (.t 6)),
 oP 18 (.move (.t 4)),
 oP 19 (.bin .gtr (.t 17) (.t 18))])
 (.cond (.t 19) (.region 0 [oP 20 (.move (.t 5)),
 oP 21 (.move (.t 6)),
 oP 3 (.move (.t 20)),
 oP 4 (.move (.t 21))])
 (.skip))))))
 (.region 0 [oP 22 (.bin .add (.t 7) (.c (.int .i64 1))),
 oP 7 (.move (.t 22))])))))))
 (.seq (.region 0 [oP 23 (.move (.t 3)),
 oP 2 (.move (.t 23))])
 (.ret))))⟩
/-- almadraba/almadrabalaw08.Huge -/
def f42 : AFn := ⟨19, [.tmp 2],
 .seq (.region 0 [oQ 1 (.box (.t 0)),
 oP 2 (.move (.c (.bool false)))])
 (.seq (.region 0 [oP 3 (.fieldAddr 0 (.t 1)),
 oQ 4 (.load false 1 (.t 3)),
 oP 5 (.lenS (.t 4)),
 oP 6 (.bin .gtr (.t 5) (.c (.int .i64 40))),
 oP 7 (.move (.t 6)),
 oG 8 7 false (.fieldAddr 2 (.t 1)),
 ⟨(some 9), .load false 1 (.t 8), (some (7, false)), none, []⟩,
 oG 10 7 false (.lenS (.t 9)),
 oG 11 7 false (.bin .gtr (.t 10) (.c (.int .i64 40))),
 oP 12 (.pick (.t 7) (.c (.bool true)) (.t 11)),
 oP 13 (.move (.t 12)),
 oG 14 13 false (.fieldAddr 3 (.t 1)),
 ⟨(some 15), .load false 1 (.t 14), (some (13, false)), none, []⟩,
 oG 16 13 false (.lenS (.t 15)),
 oG 17 13 false (.bin .gtr (.t 16) (.c (.int .i64 40))),
 oP 18 (.pick (.t 13) (.c (.bool true)) (.t 17)),
 oP 2 (.move (.t 18))])
 (.ret))⟩
end Go.Proofs.Ytfagcnokdnanpaa.T
