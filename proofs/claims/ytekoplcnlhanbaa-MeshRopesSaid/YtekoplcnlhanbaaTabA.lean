/-
The code of functions of the seat, as the abstract machine has it (printed by a tool of ours off the dump).
-/
import Derived.Test.YtekoplcnlhanbaaAmX
namespace Go.Proofs.Ytekoplcnlhanbaa.T
open Go Go.Am
abbrev oP (n : Nat) (p : POp) : AOper := ⟨some n, .p p, none, none, []⟩
abbrev oQ (n : Nat) (p : AOp) : AOper := ⟨some n, p, none, none, []⟩
abbrev oG (n m : Nat) (b : Bool) (p : POp) : AOper := ⟨some n, .p p, some (m, b), none, []⟩
/-- gosem.cut.init -/
def f2 : AFn := ⟨1, [],
 .region 0 [oQ 0 (.call 1 1 [])]⟩
/-- almadraba/almadrabalaw04.MeshTimes -/
def f3 : AFn := ⟨109, [.tmp 4],
 .seq (.region 0 [oQ 2 (.box (.t 0)),
 oP 4 (.move (.c (.bool false)))])
 (.seq (.seq (.region 0 [oQ 19 (.load true 3 (.t 2)),
 oP 20 (.move (.t 1)),
 oQ 21 (.call 1 14 [(.t 19), (.t 20)])])
 (.cond (.t 21) (.seq (.region 0 [oQ 22 (.call 1 15 []),
 oP 4 (.move (.t 22))])
 (.ret))
 (.skip)))
 (.seq (.region 0 [oQ 23 (.load true 3 (.t 2)),
 oQ 24 (.call 1 16 [(.t 23)]),
 oP 25 (.move (.t 1)),
 oQ 26 (.call 1 17 [(.t 25)]),
 oQ 5 (.alloc [.int .i64 0, .nils, .nils]),
 ⟨none, .store 3 (.t 5) (.t 24), none, none, []⟩,
 oP 6 (.move (.t 26))])
 (.seq (.seq (.region 0 [oQ 27 (.load true 3 (.t 5)),
 oQ 28 (.call 1 18 [(.t 27)]),
 oQ 29 (.load true 3 (.t 2)),
 oQ 30 (.call 1 19 [(.t 29)]),
 oP 31 (.bin .neq (.t 28) (.t 30))])
 (.cond (.t 31) (.seq (.region 0 [oP 4 (.move (.c (.bool false)))])
 (.ret))
 (.skip)))
 (.seq (.region 0 [oQ 33 (.load true 3 (.t 5)),
 oP 34 (.move (.t 6)),
 oQ 35 (.call 1 20 [(.t 33), (.t 34)]),
 oP 32 (.move (.t 35)),
 oP 36 (.extract (.t 32) 0),
 oP 37 (.extract (.t 32) 1),
 oP 7 (.move (.t 36)),
 oP 8 (.move (.t 37))])
 (.seq (.region 0 [oQ 39 (.load true 3 (.t 2)),
 oP 40 (.move (.t 1)),
 oQ 41 (.call 1 21 [(.t 39), (.t 40)]),
 oP 38 (.move (.t 41)),
 oP 42 (.extract (.t 38) 0),
 oP 43 (.extract (.t 38) 1),
 oP 9 (.move (.t 42)),
 oP 10 (.move (.t 43))])
 (.seq (.region 0 [oQ 45 (.load true 3 (.t 5)),
 oP 46 (.move (.t 6)),
 oQ 47 (.call 1 22 [(.t 45), (.t 46)]),
 oP 44 (.move (.t 47)),
 oP 48 (.extract (.t 44) 0),
 oP 49 (.extract (.t 44) 1),
 oP 11 (.move (.t 48)),
 oP 12 (.move (.t 49))])
 (.seq (.region 0 [oQ 51 (.load true 3 (.t 2)),
 oP 52 (.move (.t 1)),
 oQ 53 (.call 1 23 [(.t 51), (.t 52)]),
 oP 50 (.move (.t 53)),
 oP 54 (.extract (.t 50) 0),
 oP 55 (.extract (.t 50) 1),
 oP 13 (.move (.t 54)),
 oP 14 (.move (.t 55))])
 (.seq (.region 0 [oQ 57 (.load true 3 (.t 5)),
 oP 58 (.move (.t 6)),
 oQ 59 (.call 1 24 [(.t 57), (.t 58)]),
 oP 56 (.move (.t 59)),
 oP 60 (.extract (.t 56) 0),
 oP 61 (.extract (.t 56) 1),
 oQ 15 (.alloc [.int .i64 0, .int .i64 0]),
 ⟨none, .store 2 (.t 15) (.t 60), none, none, []⟩,
 oP 16 (.move (.t 61))])
 (.seq (.region 0 [oQ 63 (.load true 3 (.t 2)),
 oP 64 (.move (.t 1)),
 oQ 65 (.call 1 25 [(.t 63), (.t 64)]),
 oP 62 (.move (.t 65)),
 oP 66 (.extract (.t 62) 0),
 oP 67 (.extract (.t 62) 1),
 oQ 17 (.alloc [.int .i64 0, .int .i64 0]),
 ⟨none, .store 2 (.t 17) (.t 66), none, none, []⟩,
 oP 18 (.move (.t 67))])
 (.seq (.region 0 [oP 68 (.move (.t 7)),
 oP 69 (.move (.t 9)),
 oP 70 (.eqB false (.t 68) (.t 69)),
 oP 71 (.move (.t 70)),
 oG 72 71 true (.move (.t 8)),
 oG 73 71 true (.move (.t 10)),
 oG 74 71 true (.bin .eql (.t 72) (.t 73)),
 oP 75 (.pick (.t 71) (.t 74) (.c (.bool false))),
 oP 76 (.move (.t 75)),
 oG 77 76 true (.move (.t 11)),
 oG 78 76 true (.move (.t 13)),
 ⟨(some 79), .call 1 26 [(.t 77), (.t 78)], (some (76, true)), none, []⟩,
 oP 80 (.pick (.t 76) (.t 79) (.c (.bool false))),
 oP 81 (.move (.t 80)),
 oG 82 81 true (.move (.t 12)),
 oG 83 81 true (.move (.t 14)),
 oG 84 81 true (.bin .eql (.t 82) (.t 83)),
 oP 85 (.pick (.t 81) (.t 84) (.c (.bool false))),
 oP 86 (.move (.t 85)),
 ⟨(some 87), .load true 2 (.t 15), (some (86, true)), none, []⟩,
 ⟨(some 88), .load true 2 (.t 17), (some (86, true)), none, []⟩,
 oG 89 86 true (.eqS false [true, true] (.t 87) (.t 88)),
 oP 90 (.pick (.t 86) (.t 89) (.c (.bool false))),
 oP 91 (.move (.t 90)),
 oG 92 91 true (.move (.t 16)),
 oG 93 91 true (.move (.t 18)),
 oG 94 91 true (.bin .eql (.t 92) (.t 93)),
 oP 95 (.pick (.t 91) (.t 94) (.c (.bool false))),
 oP 96 (.move (.t 95)),
 ⟨(some 97), .load true 3 (.t 5), (some (96, true)), none, []⟩,
 ⟨(some 98), .load true 3 (.t 2), (some (96, true)), none, []⟩,
 ⟨(some 99), .call 1 27 [(.t 97), (.t 98)], (some (96, true)), none, []⟩,
 oP 100 (.pick (.t 96) (.t 99) (.c (.bool false))),
 oP 101 (.move (.t 100)),
 oG 102 101 true (.move (.t 6)),
 oG 103 101 true (.move (.t 1)),
 ⟨(some 104), .call 1 26 [(.t 102), (.t 103)], (some (101, true)), none, []⟩,
 oP 105 (.pick (.t 101) (.t 104) (.c (.bool false))),
 oP 106 (.move (.t 105)),
 ⟨(some 107), .call 1 15 [], (some (106, true)), none, []⟩,
 oP 108 (.pick (.t 106) (.t 107) (.c (.bool false))),
 oP 4 (.move (.t 108))])
 (.ret)))))))))))⟩
/-- almadraba/almadrabalaw04.MeshLeast -/
def f4 : AFn := ⟨110, [.tmp 4],
 .seq (.region 0 [oQ 2 (.box (.t 0)),
 oP 4 (.move (.c (.bool false)))])
 (.seq (.seq (.region 0 [oQ 18 (.load true 3 (.t 2)),
 oQ 19 (.call 1 28 [(.t 18), (.c (.int .i64 5))])])
 (.cond (.t 19) (.seq (.region 0 [oQ 20 (.call 1 15 []),
 oP 4 (.move (.t 20))])
 (.ret))
 (.skip)))
 (.seq (.region 0 [oQ 21 (.load true 3 (.t 2)),
 oQ 22 (.call 1 16 [(.t 21)]),
 oQ 5 (.alloc [.int .i64 0, .nils, .nils]),
 ⟨none, .store 3 (.t 5) (.t 22), none, none, []⟩])
 (.seq (.region 0 [oQ 24 (.load true 3 (.t 5)),
 oQ 25 (.call 1 29 [(.t 24)]),
 oP 23 (.move (.t 25)),
 oP 26 (.extract (.t 23) 0),
 oP 27 (.extract (.t 23) 1),
 oP 6 (.move (.t 26)),
 oP 7 (.move (.t 27))])
 (.seq (.region 0 [oQ 29 (.load true 3 (.t 2)),
 oQ 30 (.call 1 30 [(.t 29)]),
 oP 28 (.move (.t 30)),
 oP 31 (.extract (.t 28) 0),
 oP 32 (.extract (.t 28) 1),
 oP 8 (.move (.t 31)),
 oP 9 (.move (.t 32))])
 (.seq (.region 0 [oQ 34 (.load true 3 (.t 5)),
 oQ 35 (.call 1 31 [(.t 34)]),
 oP 33 (.move (.t 35)),
 oP 36 (.extract (.t 33) 0),
 oP 37 (.extract (.t 33) 1),
 oP 10 (.move (.t 36)),
 oP 11 (.move (.t 37))])
 (.seq (.region 0 [oQ 39 (.load true 3 (.t 2)),
 oQ 40 (.call 1 32 [(.t 39)]),
 oP 38 (.move (.t 40)),
 oP 41 (.extract (.t 38) 0),
 oP 42 (.extract (.t 38) 1),
 oP 12 (.move (.t 41)),
 oP 13 (.move (.t 42))])
 (.seq (.seq (.region 0 [oP 43 (.move (.t 6)),
 oP 44 (.move (.t 8)),
 oP 45 (.bin .neq (.t 43) (.t 44)),
 oP 46 (.move (.t 45)),
 oG 47 46 false (.move (.t 7)),
 oG 48 46 false (.move (.t 9)),
 oG 49 46 false (.bin .neq (.t 47) (.t 48)),
 oP 50 (.pick (.t 46) (.c (.bool true)) (.t 49)),
 oP 51 (.move (.t 50)),
 oG 52 51 false (.move (.t 10)),
 oG 53 51 false (.move (.t 12)),
 ⟨(some 54), .call 1 26 [(.t 52), (.t 53)], (some (51, false)), none, []⟩,
 oG 55 51 false (.un .not (.t 54)),
 oP 56 (.pick (.t 51) (.c (.bool true)) (.t 55)),
 oP 57 (.move (.t 56)),
 oG 58 57 false (.move (.t 11)),
 oG 59 57 false (.move (.t 13)),
 oG 60 57 false (.bin .neq (.t 58) (.t 59)),
 oP 61 (.pick (.t 57) (.c (.bool true)) (.t 60))])
 (.cond (.t 61) (.seq (.region 0 [oP 4 (.move (.c (.bool false)))])
 (.ret))
 (.skip)))
 (.seq (.region 0 [oQ 63 (.load true 3 (.t 5)),
 oP 64 (.move (.t 1)),
 oQ 65 (.call 1 33 [(.t 63), (.t 64)]),
 oP 62 (.move (.t 65)),
 oP 66 (.extract (.t 62) 0),
 oP 67 (.extract (.t 62) 1),
 oP 14 (.move (.t 66)),
 oP 7 (.move (.t 67))])
 (.seq (.region 0 [oQ 69 (.load true 3 (.t 2)),
 oP 70 (.move (.t 1)),
 oQ 71 (.call 1 34 [(.t 69), (.t 70)]),
 oP 68 (.move (.t 71)),
 oP 72 (.extract (.t 68) 0),
 oP 73 (.extract (.t 68) 1),
 oP 15 (.move (.t 72)),
 oP 9 (.move (.t 73))])
 (.seq (.region 0 [oQ 75 (.load true 3 (.t 5)),
 oQ 76 (.call 1 35 [(.t 75)]),
 oP 74 (.move (.t 76)),
 oP 77 (.extract (.t 74) 0),
 oP 78 (.extract (.t 74) 1),
 oP 16 (.move (.t 77)),
 oP 11 (.move (.t 78))])
 (.seq (.region 0 [oQ 80 (.load true 3 (.t 2)),
 oQ 81 (.call 1 36 [(.t 80)]),
 oP 79 (.move (.t 81)),
 oP 82 (.extract (.t 79) 0),
 oP 83 (.extract (.t 79) 1),
 oP 17 (.move (.t 82)),
 oP 13 (.move (.t 83))])
 (.seq (.region 0 [oP 84 (.move (.t 14)),
 oP 85 (.move (.t 15)),
 oP 86 (.bin .eql (.t 84) (.t 85)),
 oP 87 (.move (.t 86)),
 oG 88 87 true (.move (.t 7)),
 oG 89 87 true (.move (.t 9)),
 oG 90 87 true (.bin .eql (.t 88) (.t 89)),
 oP 91 (.pick (.t 87) (.t 90) (.c (.bool false))),
 oP 92 (.move (.t 91)),
 oG 93 92 true (.move (.t 16)),
 oG 94 92 true (.move (.t 17)),
 oG 95 92 true (.bin .eql (.t 93) (.t 94)),
 oP 96 (.pick (.t 92) (.t 95) (.c (.bool false))),
 oP 97 (.move (.t 96)),
 oG 98 97 true (.move (.t 11)),
 oG 99 97 true (.move (.t 13)),
 oG 100 97 true (.bin .eql (.t 98) (.t 99)),
 oP 101 (.pick (.t 97) (.t 100) (.c (.bool false))),
 oP 102 (.move (.t 101)),
 ⟨(some 103), .load true 3 (.t 5), (some (102, true)), none, []⟩,
 ⟨(some 104), .load true 3 (.t 2), (some (102, true)), none, []⟩,
 ⟨(some 105), .call 1 27 [(.t 103), (.t 104)], (some (102, true)), none, []⟩,
 oP 106 (.pick (.t 102) (.t 105) (.c (.bool false))),
 oP 107 (.move (.t 106)),
 ⟨(some 108), .call 1 15 [], (some (107, true)), none, []⟩,
 oP 109 (.pick (.t 107) (.t 108) (.c (.bool false))),
 oP 4 (.move (.t 109))])
 (.ret)))))))))))))⟩
/-- almadraba/almadrabalaw04.MeshRule -/
def f5 : AFn := ⟨63, [.tmp 2],
 .seq (.region 0 [oQ 1 (.box (.t 0)),
 oP 2 (.move (.c (.bool false)))])
 (.seq (.seq (.region 0 [oQ 12 (.load true 3 (.t 1)),
 oQ 13 (.call 1 28 [(.t 12), (.c (.int .i64 5))])])
 (.cond (.t 13) (.seq (.region 0 [oQ 14 (.call 1 15 []),
 oP 2 (.move (.t 14))])
 (.ret))
 (.skip)))
 (.seq (.region 0 [oQ 15 (.load true 3 (.t 1)),
 oQ 16 (.call 1 16 [(.t 15)]),
 oQ 3 (.alloc [.int .i64 0, .nils, .nils]),
 ⟨none, .store 3 (.t 3) (.t 16), none, none, []⟩])
 (.seq (.region 0 [oQ 18 (.load true 3 (.t 3)),
 oQ 19 (.call 1 37 [(.t 18)]),
 oP 17 (.move (.t 19)),
 oP 20 (.extract (.t 17) 0),
 oP 21 (.extract (.t 17) 1),
 oP 4 (.move (.t 20)),
 oP 5 (.move (.t 21))])
 (.seq (.region 0 [oQ 23 (.load true 3 (.t 1)),
 oQ 24 (.call 1 38 [(.t 23)]),
 oP 22 (.move (.t 24)),
 oP 25 (.extract (.t 22) 0),
 oP 26 (.extract (.t 22) 1),
 oP 6 (.move (.t 25)),
 oP 7 (.move (.t 26))])
 (.seq (.region 0 [oQ 28 (.load true 3 (.t 3)),
 oQ 29 (.call 1 39 [(.t 28)]),
 oP 27 (.move (.t 29)),
 oP 30 (.extract (.t 27) 0),
 oP 31 (.extract (.t 27) 1),
 oP 8 (.move (.t 30)),
 oP 9 (.move (.t 31))])
 (.seq (.region 0 [oQ 33 (.load true 3 (.t 1)),
 oQ 34 (.call 1 40 [(.t 33)]),
 oP 32 (.move (.t 34)),
 oP 35 (.extract (.t 32) 0),
 oP 36 (.extract (.t 32) 1),
 oP 10 (.move (.t 35)),
 oP 11 (.move (.t 36))])
 (.seq (.region 0 [oP 37 (.move (.t 4)),
 oP 38 (.move (.t 6)),
 oQ 39 (.call 1 26 [(.t 37), (.t 38)]),
 oP 40 (.move (.t 39)),
 oG 41 40 true (.move (.t 5)),
 oG 42 40 true (.move (.t 7)),
 oG 43 40 true (.bin .eql (.t 41) (.t 42)),
 oP 44 (.pick (.t 40) (.t 43) (.c (.bool false))),
 oP 45 (.move (.t 44)),
 oG 46 45 true (.move (.t 8)),
 oG 47 45 true (.move (.t 10)),
 oG 48 45 true (.bin .eql (.t 46) (.t 47)),
 oP 49 (.pick (.t 45) (.t 48) (.c (.bool false))),
 oP 50 (.move (.t 49)),
 oG 51 50 true (.move (.t 9)),
 oG 52 50 true (.move (.t 11)),
 oG 53 50 true (.bin .eql (.t 51) (.t 52)),
 oP 54 (.pick (.t 50) (.t 53) (.c (.bool false))),
 oP 55 (.move (.t 54)),
 ⟨(some 56), .load true 3 (.t 3), (some (55, true)), none, []⟩,
 ⟨(some 57), .load true 3 (.t 1), (some (55, true)), none, []⟩,
 ⟨(some 58), .call 1 27 [(.t 56), (.t 57)], (some (55, true)), none, []⟩,
 oP 59 (.pick (.t 55) (.t 58) (.c (.bool false))),
 oP 60 (.move (.t 59)),
 ⟨(some 61), .call 1 15 [], (some (60, true)), none, []⟩,
 oP 62 (.pick (.t 60) (.t 61) (.c (.bool false))),
 oP 2 (.move (.t 62))])
 (.ret))))))))⟩
/-- almadraba/almadrabalaw04.MeshCalm -/
def f6 : AFn := ⟨80, [.tmp 4],
 .seq (.region 0 [oQ 2 (.box (.t 0)),
 oP 4 (.move (.c (.bool false)))])
 (.seq (.seq (.region 0 [oQ 15 (.load true 3 (.t 2)),
 oQ 16 (.call 1 28 [(.t 15), (.c (.int .i64 4))]),
 oP 17 (.move (.t 16)),
 oG 18 17 false (.move (.t 1)),
 oG 19 17 false (.lenS (.t 18)),
 oG 20 17 false (.bin .gtr (.t 19) (.c (.int .i64 40))),
 oP 21 (.pick (.t 17) (.c (.bool true)) (.t 20))])
 (.cond (.t 21) (.seq (.region 0 [oQ 22 (.call 1 15 []),
 oP 4 (.move (.t 22))])
 (.ret))
 (.skip)))
 (.seq (.region 0 [oQ 23 (.load true 3 (.t 2)),
 oQ 24 (.call 1 16 [(.t 23)]),
 oP 25 (.move (.t 1)),
 oQ 26 (.call 1 17 [(.t 25)]),
 oQ 5 (.alloc [.int .i64 0, .nils, .nils]),
 ⟨none, .store 3 (.t 5) (.t 24), none, none, []⟩,
 oP 6 (.move (.t 26))])
 (.seq (.region 0 [oQ 28 (.load true 3 (.t 5)),
 oP 29 (.move (.t 6)),
 oQ 30 (.call 1 41 [(.t 28), (.t 29)]),
 oP 27 (.move (.t 30)),
 oP 31 (.extract (.t 27) 0),
 oP 32 (.extract (.t 27) 1),
 oP 7 (.move (.t 31)),
 oP 8 (.move (.t 32))])
 (.seq (.region 0 [oQ 34 (.load true 3 (.t 2)),
 oP 35 (.move (.t 1)),
 oQ 36 (.call 1 42 [(.t 34), (.t 35)]),
 oP 33 (.move (.t 36)),
 oP 37 (.extract (.t 33) 0),
 oP 38 (.extract (.t 33) 1),
 oP 9 (.move (.t 37)),
 oP 10 (.move (.t 38))])
 (.seq (.region 0 [oQ 40 (.load true 3 (.t 5)),
 oQ 41 (.call 1 43 [(.t 40)]),
 oP 39 (.move (.t 41)),
 oP 42 (.extract (.t 39) 0),
 oP 43 (.extract (.t 39) 1),
 oP 11 (.move (.t 42)),
 oP 12 (.move (.t 43))])
 (.seq (.region 0 [oQ 45 (.load true 3 (.t 2)),
 oQ 46 (.call 1 44 [(.t 45)]),
 oP 44 (.move (.t 46)),
 oP 47 (.extract (.t 44) 0),
 oP 48 (.extract (.t 44) 1),
 oP 13 (.move (.t 47)),
 oP 14 (.move (.t 48))])
 (.seq (.region 0 [oP 49 (.move (.t 7)),
 oP 50 (.move (.t 9)),
 oP 51 (.bin .eql (.t 49) (.t 50)),
 oP 52 (.move (.t 51)),
 oG 53 52 true (.move (.t 8)),
 oG 54 52 true (.move (.t 10)),
 oG 55 52 true (.bin .eql (.t 53) (.t 54)),
 oP 56 (.pick (.t 52) (.t 55) (.c (.bool false))),
 oP 57 (.move (.t 56)),
 oG 58 57 true (.move (.t 11)),
 oG 59 57 true (.move (.t 13)),
 ⟨(some 60), .call 1 26 [(.t 58), (.t 59)], (some (57, true)), none, []⟩,
 oP 61 (.pick (.t 57) (.t 60) (.c (.bool false))),
 oP 62 (.move (.t 61)),
 oG 63 62 true (.move (.t 12)),
 oG 64 62 true (.move (.t 14)),
 oG 65 62 true (.bin .eql (.t 63) (.t 64)),
 oP 66 (.pick (.t 62) (.t 65) (.c (.bool false))),
 oP 67 (.move (.t 66)),
 ⟨(some 68), .load true 3 (.t 5), (some (67, true)), none, []⟩,
 ⟨(some 69), .load true 3 (.t 2), (some (67, true)), none, []⟩,
 ⟨(some 70), .call 1 27 [(.t 68), (.t 69)], (some (67, true)), none, []⟩,
 oP 71 (.pick (.t 67) (.t 70) (.c (.bool false))),
 oP 72 (.move (.t 71)),
 oG 73 72 true (.move (.t 6)),
 oG 74 72 true (.move (.t 1)),
 ⟨(some 75), .call 1 26 [(.t 73), (.t 74)], (some (72, true)), none, []⟩,
 oP 76 (.pick (.t 72) (.t 75) (.c (.bool false))),
 oP 77 (.move (.t 76)),
 ⟨(some 78), .call 1 15 [], (some (77, true)), none, []⟩,
 oP 79 (.pick (.t 77) (.t 78) (.c (.bool false))),
 oP 4 (.move (.t 79))])
 (.ret))))))))⟩
/-- almadraba/almadrabalaw04.MeshMore -/
def f7 : AFn := ⟨63, [.tmp 2],
 .seq (.region 0 [oQ 1 (.box (.t 0)),
 oP 2 (.move (.c (.bool false)))])
 (.seq (.seq (.region 0 [oQ 12 (.load true 3 (.t 1)),
 oQ 13 (.call 1 28 [(.t 12), (.c (.int .i64 5))])])
 (.cond (.t 13) (.seq (.region 0 [oQ 14 (.call 1 15 []),
 oP 2 (.move (.t 14))])
 (.ret))
 (.skip)))
 (.seq (.region 0 [oQ 15 (.load true 3 (.t 1)),
 oQ 16 (.call 1 16 [(.t 15)]),
 oQ 3 (.alloc [.int .i64 0, .nils, .nils]),
 ⟨none, .store 3 (.t 3) (.t 16), none, none, []⟩])
 (.seq (.region 0 [oQ 18 (.load true 3 (.t 3)),
 oQ 19 (.call 1 45 [(.t 18)]),
 oP 17 (.move (.t 19)),
 oP 20 (.extract (.t 17) 0),
 oP 21 (.extract (.t 17) 1),
 oP 4 (.move (.t 20)),
 oP 5 (.move (.t 21))])
 (.seq (.region 0 [oQ 23 (.load true 3 (.t 1)),
 oQ 24 (.call 1 46 [(.t 23)]),
 oP 22 (.move (.t 24)),
 oP 25 (.extract (.t 22) 0),
 oP 26 (.extract (.t 22) 1),
 oP 6 (.move (.t 25)),
 oP 7 (.move (.t 26))])
 (.seq (.region 0 [oQ 28 (.load true 3 (.t 3)),
 oQ 29 (.call 1 47 [(.t 28)]),
 oP 27 (.move (.t 29)),
 oP 30 (.extract (.t 27) 0),
 oP 31 (.extract (.t 27) 1),
 oP 8 (.move (.t 30)),
 oP 9 (.move (.t 31))])
 (.seq (.region 0 [oQ 33 (.load true 3 (.t 1)),
 oQ 34 (.call 1 48 [(.t 33)]),
 oP 32 (.move (.t 34)),
 oP 35 (.extract (.t 32) 0),
 oP 36 (.extract (.t 32) 1),
 oP 10 (.move (.t 35)),
 oP 11 (.move (.t 36))])
 (.seq (.region 0 [oP 37 (.move (.t 4)),
 oP 38 (.move (.t 6)),
 oP 39 (.bin .eql (.t 37) (.t 38)),
 oP 40 (.move (.t 39)),
 oG 41 40 true (.move (.t 5)),
 oG 42 40 true (.move (.t 7)),
 oG 43 40 true (.bin .eql (.t 41) (.t 42)),
 oP 44 (.pick (.t 40) (.t 43) (.c (.bool false))),
 oP 45 (.move (.t 44)),
 oG 46 45 true (.move (.t 8)),
 oG 47 45 true (.move (.t 10)),
 oG 48 45 true (.bin .eql (.t 46) (.t 47)),
 oP 49 (.pick (.t 45) (.t 48) (.c (.bool false))),
 oP 50 (.move (.t 49)),
 oG 51 50 true (.move (.t 9)),
 oG 52 50 true (.move (.t 11)),
 oG 53 50 true (.bin .eql (.t 51) (.t 52)),
 oP 54 (.pick (.t 50) (.t 53) (.c (.bool false))),
 oP 55 (.move (.t 54)),
 ⟨(some 56), .load true 3 (.t 3), (some (55, true)), none, []⟩,
 ⟨(some 57), .load true 3 (.t 1), (some (55, true)), none, []⟩,
 ⟨(some 58), .call 1 27 [(.t 56), (.t 57)], (some (55, true)), none, []⟩,
 oP 59 (.pick (.t 55) (.t 58) (.c (.bool false))),
 oP 60 (.move (.t 59)),
 ⟨(some 61), .call 1 15 [], (some (60, true)), none, []⟩,
 oP 62 (.pick (.t 60) (.t 61) (.c (.bool false))),
 oP 2 (.move (.t 62))])
 (.ret))))))))⟩
/-- almadraba/almadrabalaw04.MeshEach -/
def f8 : AFn := ⟨168, [.tmp 4],
 .seq (.region 0 [oQ 2 (.box (.t 0)),
 oP 4 (.move (.c (.bool false)))])
 (.seq (.seq (.region 0 [oQ 17 (.load true 3 (.t 2)),
 oQ 18 (.call 1 49 [(.t 17), (.c (.int .i64 5))]),
 oP 19 (.un .not (.t 18)),
 oP 20 (.move (.t 19)),
 oG 21 20 false (.move (.t 1)),
 oG 22 20 false (.lenS (.t 21)),
 oG 23 20 false (.bin .gtr (.t 22) (.c (.int .i64 40))),
 oP 24 (.pick (.t 20) (.c (.bool true)) (.t 23)),
 oP 25 (.move (.t 24)),
 ⟨(some 26), .load true 3 (.t 2), (some (25, false)), none, []⟩,
 oG 27 25 false (.move (.t 1)),
 ⟨(some 28), .call 1 50 [(.t 26), (.t 27)], (some (25, false)), none, []⟩,
 oG 29 25 false (.un .not (.t 28)),
 oP 30 (.pick (.t 25) (.c (.bool true)) (.t 29))])
 (.cond (.t 30) (.seq (.region 0 [oQ 31 (.call 1 15 []),
 oP 4 (.move (.t 31))])
 (.ret))
 (.skip)))
 (.seq (.region 0 [oQ 33 (.load true 3 (.t 2)),
 oQ 34 (.call 1 51 [(.t 33)]),
 oP 32 (.move (.t 34)),
 oP 35 (.extract (.t 32) 0),
 oP 36 (.extract (.t 32) 1),
 oP 37 (.extract (.t 32) 2),
 oP 5 (.move (.t 35)),
 oP 6 (.move (.t 36)),
 oP 7 (.move (.t 37))])
 (.seq (.region 0 [oQ 39 (.load true 3 (.t 2)),
 oQ 40 (.call 1 31 [(.t 39)]),
 oP 38 (.move (.t 40)),
 oP 41 (.extract (.t 38) 0),
 oP 42 (.extract (.t 38) 1),
 oP 8 (.move (.t 41)),
 oP 9 (.move (.t 42))])
 (.seq (.region 0 [oQ 44 (.load true 3 (.t 2)),
 oQ 45 (.call 1 37 [(.t 44)]),
 oP 43 (.move (.t 45)),
 oP 46 (.extract (.t 43) 0),
 oP 47 (.extract (.t 43) 1),
 oP 10 (.move (.t 46)),
 oP 11 (.move (.t 47))])
 (.seq (.region 0 [oQ 49 (.load true 3 (.t 2)),
 oQ 50 (.call 1 39 [(.t 49)]),
 oP 48 (.move (.t 50)),
 oP 51 (.extract (.t 48) 0),
 oP 52 (.extract (.t 48) 1),
 oP 12 (.move (.t 51)),
 oP 13 (.move (.t 52))])
 (.seq (.region 0 [oQ 54 (.load true 3 (.t 2)),
 oP 55 (.move (.t 1)),
 oQ 56 (.call 1 17 [(.t 55)]),
 oQ 57 (.call 1 22 [(.t 54), (.t 56)]),
 oP 53 (.move (.t 57)),
 oP 58 (.extract (.t 53) 0),
 oP 59 (.extract (.t 53) 1),
 oP 14 (.move (.t 58)),
 oP 15 (.move (.t 59))])
 (.seq (.seq (.region 0 [oP 60 (.move (.t 7)),
 oP 61 (.un .not (.t 60)),
 oP 62 (.move (.t 61)),
 oG 63 62 false (.move (.t 9)),
 oG 64 62 false (.bin .neq (.t 63) (.c (.int .i64 0))),
 oP 65 (.pick (.t 62) (.c (.bool true)) (.t 64)),
 oP 66 (.move (.t 65)),
 oG 67 66 false (.move (.t 11)),
 oG 68 66 false (.bin .neq (.t 67) (.c (.int .i64 0))),
 oP 69 (.pick (.t 66) (.c (.bool true)) (.t 68)),
 oP 70 (.move (.t 69)),
 oG 71 70 false (.move (.t 13)),
 oG 72 70 false (.bin .neq (.t 71) (.c (.int .i64 0))),
 oP 73 (.pick (.t 70) (.c (.bool true)) (.t 72)),
 oP 74 (.move (.t 73)),
 oG 75 74 false (.move (.t 15)),
 oG 76 74 false (.bin .neq (.t 75) (.c (.int .i64 0))),
 oP 77 (.pick (.t 74) (.c (.bool true)) (.t 76)),
 oP 78 (.move (.t 77)),
 ⟨(some 79), .load true 3 (.t 2), (some (78, false)), none, []⟩,
 oG 80 78 false (.move (.t 8)),
 ⟨(some 81), .call 1 50 [(.t 79), (.t 80)], (some (78, false)), none, []⟩,
 oG 82 78 false (.un .not (.t 81)),
 oP 83 (.pick (.t 78) (.c (.bool true)) (.t 82)),
 oP 84 (.move (.t 83)),
 ⟨(some 85), .load true 3 (.t 2), (some (84, false)), none, []⟩,
 oG 86 84 false (.move (.t 10)),
 ⟨(some 87), .call 1 50 [(.t 85), (.t 86)], (some (84, false)), none, []⟩,
 oG 88 84 false (.un .not (.t 87)),
 oP 89 (.pick (.t 84) (.c (.bool true)) (.t 88)),
 oP 90 (.move (.t 89)),
 ⟨(some 91), .load true 3 (.t 2), (some (90, false)), none, []⟩,
 oG 92 90 false (.move (.t 8)),
 ⟨(some 93), .call 1 52 [(.t 91), (.t 92)], (some (90, false)), none, []⟩,
 oG 94 90 false (.move (.t 5)),
 oG 95 90 false (.bin .neq (.t 93) (.t 94)),
 oP 96 (.pick (.t 90) (.c (.bool true)) (.t 95)),
 oP 97 (.move (.t 96)),
 oG 98 97 false (.move (.t 12)),
 oG 99 97 false (.bin .lss (.t 98) (.c (.int .i64 0))),
 oP 100 (.pick (.t 97) (.c (.bool true)) (.t 99)),
 oP 101 (.move (.t 100)),
 oG 102 101 false (.move (.t 12)),
 oG 103 101 false (.bin .gtr (.t 102) (.c (.int .i64 100000))),
 oP 104 (.pick (.t 101) (.c (.bool true)) (.t 103)),
 oP 105 (.move (.t 104)),
 ⟨(some 106), .load true 3 (.t 2), (some (105, false)), none, []⟩,
 oG 107 105 false (.move (.t 10)),
 ⟨(some 108), .call 1 52 [(.t 106), (.t 107)], (some (105, false)), none, []⟩,
 oG 109 105 false (.move (.t 5)),
 oG 110 105 false (.move (.t 12)),
 oG 111 105 false (.bin .add (.t 109) (.t 110)),
 oG 112 105 false (.bin .neq (.t 108) (.t 111)),
 oP 113 (.pick (.t 105) (.c (.bool true)) (.t 112)),
 oP 114 (.move (.t 113)),
 ⟨(some 115), .load true 3 (.t 2), (some (114, false)), none, []⟩,
 oG 116 114 false (.move (.t 1)),
 ⟨(some 117), .call 1 52 [(.t 115), (.t 116)], (some (114, false)), none, []⟩,
 oG 118 114 false (.move (.t 5)),
 oG 119 114 false (.bin .lss (.t 117) (.t 118)),
 oP 120 (.pick (.t 114) (.c (.bool true)) (.t 119)),
 oP 121 (.move (.t 120)),
 ⟨(some 122), .load true 3 (.t 2), (some (121, false)), none, []⟩,
 oG 123 121 false (.move (.t 1)),
 ⟨(some 124), .call 1 53 [(.t 122), (.t 123)], (some (121, false)), none, []⟩,
 oG 125 121 false (.move (.t 6)),
 oG 126 121 false (.bin .lss (.t 124) (.t 125)),
 oP 127 (.pick (.t 121) (.c (.bool true)) (.t 126)),
 oP 128 (.move (.t 127)),
 oG 129 128 false (.move (.t 14)),
 oG 130 128 false (.lenS (.t 129)),
 oG 131 128 false (.fieldAddr 1 (.t 2)),
 ⟨(some 132), .load false 1 (.t 131), (some (128, false)), none, []⟩,
 oG 133 128 false (.lenS (.t 132)),
 oG 134 128 false (.bin .neq (.t 130) (.t 133)),
 oP 135 (.pick (.t 128) (.c (.bool true)) (.t 134))])
 (.cond (.t 135) (.seq (.region 0 [oP 4 (.move (.c (.bool false)))])
 (.ret))
 (.skip)))
 (.seq (.seq (.region 0 [oP 16 (.move (.c (.int .i64 0)))])
 (.block 0 (.loop (.seq (.seq (.region 0 [oP 136 (.move (.t 16)),
 oP 137 (.move (.t 14)),
 oP 138 (.lenS (.t 137)),
 oP 139 (.bin .lss (.t 136) (.t 138))])
 (.cond (.t 139) (.skip)
 (.exit 0)))
 (.seq (.block 1 (.seq (.region 0 [oP 142 (.move (.t 14)),
 oP 143 (.move (.t 16)),
 oP 144 (.idxSl 1 (.t 142) (.t 143)),
 oQ 145 (.load false 1 (.t 144)),
 oP 146 (.bin .gtr (.t 145) (.c (.int .i64 100000))),
 oP 147 (.move (.t 146)),
 oG 148 147 false (.move (.t 14)),
 oG 149 147 false (.move (.t 16)),
 oG 150 147 false (.idxSl 1 (.t 148) (.t 149)),
 ⟨(some 151), .load false 1 (.t 150), (some (147, false)), none, []⟩,
 oG 152 147 false (.fieldAddr 1 (.t 2)),
 ⟨(some 153), .load false 1 (.t 152), (some (147, false)), none, []⟩,
 oG 154 147 false (.move (.t 16)),
 oG 155 147 false (.idxSl 4 (.t 153) (.t 154)),
 oG 156 147 false (.fieldAddr 0 (.t 155)),
 ⟨(some 157), .load false 1 (.t 156), (some (147, false)), none, []⟩,
 oG 158 147 false (.fieldAddr 1 (.t 2)),
 ⟨(some 159), .load false 1 (.t 158), (some (147, false)), none, []⟩,
 oG 160 147 false (.move (.t 16)),
 oG 161 147 false (.idxSl 4 (.t 159) (.t 160)),
 oG 162 147 false (.fieldAddr 3 (.t 161)),
 ⟨(some 163), .load false 1 (.t 162), (some (147, false)), none, []⟩,
 oG 164 147 false (.bin .add (.t 157) (.t 163)),
 oG 165 147 false (.bin .lss (.t 151) (.t 164)),
 oP 166 (.pick (.t 147) (.c (.bool true)) (.t 165))])
 (.cond (.t 166) (.seq (.region 0 [oP 4 (.move (.c (.bool false)))])
 (.ret))
 (.skip))))
 (.region 0 [oP 140 (.move (.t 16)),
 oP 141 (.bin .add (.t 140) (.c (.int .i64 1))),
 oP 16 (.move (.t 141))]))))))
 (.seq (.region 0 [oQ 167 (.call 1 15 []),
 oP 4 (.move (.t 167))])
 (.ret))))))))))⟩
/-- almadraba/almadrabalaw04.MeshRules -/
def f9 : AFn := ⟨75, [.tmp 2],
 .seq (.region 0 [oQ 1 (.box (.t 0)),
 oP 2 (.move (.c (.bool false)))])
 (.seq (.seq (.region 0 [oQ 11 (.load true 3 (.t 1)),
 oQ 12 (.call 1 14 [(.t 11), (.c (.nils))])])
 (.cond (.t 12) (.seq (.region 0 [oQ 13 (.call 1 15 []),
 oP 2 (.move (.t 13))])
 (.ret))
 (.skip)))
 (.seq (.region 0 [oQ 14 (.load true 3 (.t 1)),
 oQ 15 (.call 2 16 [(.t 14)]),
 oQ 3 (.alloc [.int .i64 0, .nils, .nils]),
 ⟨none, .store 3 (.t 3) (.t 15), none, none, []⟩])
 (.seq (.region 0 [oP 16 (.fieldAddr 0 (.t 3)),
 ⟨none, .store 1 (.t 16) (.c (.int .i64 1)), none, none, []⟩,
 oP 17 (.fieldAddr 2 (.t 3)),
 ⟨none, .store 1 (.t 17) (.c (.nils)), none, none, []⟩])
 (.seq (.region 0 [oP 4 (.move (.c (.int .i64 0)))])
 (.seq (.seq (.region 0 [oP 5 (.move (.c (.int .i64 0)))])
 (.block 0 (.loop (.seq (.seq (.region 0 [oP 18 (.move (.t 5)),
 oP 19 (.fieldAddr 1 (.t 3)),
 oQ 20 (.load false 1 (.t 19)),
 oP 21 (.lenS (.t 20)),
 oP 22 (.bin .lss (.t 18) (.t 21))])
 (.cond (.t 22) (.skip)
 (.exit 0)))
 (.seq (.block 1 (.seq (.region 0 [oP 25 (.fieldAddr 1 (.t 3)),
 oQ 26 (.load false 1 (.t 25)),
 oP 27 (.move (.t 5)),
 oP 28 (.idxSl 4 (.t 26) (.t 27)),
 oQ 29 (.load true 4 (.t 28)),
 oQ 6 (.alloc [.int .i64 0, .int .i64 0, .int .i64 0, .int .i64 0]),
 ⟨none, .store 4 (.t 6) (.t 29), none, none, []⟩])
 (.seq (.region 0 [oP 30 (.fieldAddr 0 (.t 6)),
 ⟨none, .store 1 (.t 30) (.c (.int .i64 0)), none, none, []⟩])
 (.seq (.region 0 [oP 31 (.fieldAddr 1 (.t 3)),
 oQ 32 (.load false 1 (.t 31)),
 oP 33 (.move (.t 5)),
 oQ 34 (.load true 4 (.t 6)),
 oP 35 (.idxSl 4 (.t 32) (.t 33)),
 ⟨none, .store 4 (.t 35) (.t 34), none, none, []⟩])
 (.seq (.region 0 [oP 36 (.fieldAddr 3 (.t 6)),
 oQ 37 (.load false 1 (.t 36)),
 oQ 38 (.call 1 54 [(.t 37), (.c (.int .i64 1)), (.c (.int .i64 9))])])
 (.cond (.t 38) (.region 0 [oP 39 (.move (.t 4)),
 oP 40 (.fieldAddr 3 (.t 6)),
 oQ 41 (.load false 1 (.t 40)),
 oP 42 (.bin .add (.t 39) (.t 41)),
 oP 4 (.move (.t 42))])
 (.skip)))))))
 (.region 0 [oP 23 (.move (.t 5)),
 oP 24 (.bin .add (.t 23) (.c (.int .i64 1))),
 oP 5 (.move (.t 24))]))))))
 (.seq (.seq (.region 0 [oQ 43 (.load true 3 (.t 3)),
 oQ 44 (.call 1 49 [(.t 43), (.c (.int .i64 5))]),
 oP 45 (.un .not (.t 44))])
 (.cond (.t 45) (.seq (.region 0 [oQ 46 (.call 1 15 []),
 oP 2 (.move (.t 46))])
 (.ret))
 (.skip)))
 (.seq (.region 0 [oQ 48 (.load true 3 (.t 3)),
 oQ 49 (.call 1 39 [(.t 48)]),
 oP 47 (.move (.t 49)),
 oP 50 (.extract (.t 47) 0),
 oP 51 (.extract (.t 47) 1),
 oP 7 (.move (.t 50)),
 oP 8 (.move (.t 51))])
 (.seq (.region 0 [oQ 53 (.load true 3 (.t 3)),
 oQ 54 (.call 1 35 [(.t 53)]),
 oP 52 (.move (.t 54)),
 oP 55 (.extract (.t 52) 0),
 oP 56 (.extract (.t 52) 1),
 oP 9 (.move (.t 55)),
 oP 10 (.move (.t 56))])
 (.seq (.region 0 [oP 57 (.move (.t 8)),
 oP 58 (.bin .eql (.t 57) (.c (.int .i64 0))),
 oP 59 (.move (.t 58)),
 oG 60 59 true (.move (.t 10)),
 oG 61 59 true (.bin .eql (.t 60) (.c (.int .i64 0))),
 oP 62 (.pick (.t 59) (.t 61) (.c (.bool false))),
 oP 63 (.move (.t 62)),
 oG 64 63 true (.move (.t 7)),
 oG 65 63 true (.bin .eql (.t 64) (.c (.int .i64 0))),
 oP 66 (.pick (.t 63) (.t 65) (.c (.bool false))),
 oP 67 (.move (.t 66)),
 oG 68 67 true (.move (.t 9)),
 oG 69 67 true (.move (.t 4)),
 oG 70 67 true (.bin .eql (.t 68) (.t 69)),
 oP 71 (.pick (.t 67) (.t 70) (.c (.bool false))),
 oP 72 (.move (.t 71)),
 ⟨(some 73), .call 1 15 [], (some (72, true)), none, []⟩,
 oP 74 (.pick (.t 72) (.t 73) (.c (.bool false))),
 oP 2 (.move (.t 74))])
 (.ret))))))))))⟩
/-- almadraba/almadrabalaw04.MeshLess -/
def f10 : AFn := ⟨162, [.tmp 4],
 .seq (.region 0 [oQ 2 (.box (.t 0)),
 oP 4 (.move (.c (.bool false)))])
 (.seq (.seq (.region 0 [oQ 20 (.load true 3 (.t 2)),
 oQ 21 (.call 1 49 [(.t 20), (.c (.int .i64 5))]),
 oP 22 (.un .not (.t 21)),
 oP 23 (.move (.t 22)),
 ⟨(some 24), .load true 3 (.t 2), (some (23, false)), none, []⟩,
 oG 25 23 false (.move (.t 1)),
 ⟨(some 26), .call 1 55 [(.t 24), (.t 25)], (some (23, false)), none, []⟩,
 oG 27 23 false (.un .not (.t 26)),
 oP 28 (.pick (.t 23) (.c (.bool true)) (.t 27))])
 (.cond (.t 28) (.seq (.region 0 [oQ 29 (.call 1 15 []),
 oP 4 (.move (.t 29))])
 (.ret))
 (.skip)))
 (.seq (.region 0 [oQ 31 (.load true 3 (.t 2)),
 oQ 32 (.call 1 51 [(.t 31)]),
 oP 30 (.move (.t 32)),
 oP 33 (.extract (.t 30) 0),
 oP 34 (.extract (.t 30) 1),
 oP 35 (.extract (.t 30) 2),
 oP 5 (.move (.t 33)),
 oP 6 (.move (.t 34)),
 oP 7 (.move (.t 35))])
 (.seq (.region 0 [oQ 36 (.load true 3 (.t 2)),
 oQ 37 (.call 2 16 [(.t 36)]),
 oQ 8 (.alloc [.int .i64 0, .nils, .nils]),
 ⟨none, .store 3 (.t 8) (.t 37), none, none, []⟩])
 (.seq (.region 0 [oP 38 (.fieldAddr 0 (.t 8)),
 oQ 39 (.load false 1 (.t 38)),
 oP 40 (.bin .add (.t 39) (.c (.int .i64 1))),
 oP 41 (.fieldAddr 0 (.t 8)),
 ⟨none, .store 1 (.t 41) (.t 40), none, none, []⟩])
 (.seq (.seq (.region 0 [oP 42 (.move (.t 7)),
 oP 43 (.un .not (.t 42))])
 (.cond (.t 43) (.seq (.region 0 [oP 4 (.move (.c (.bool false)))])
 (.ret))
 (.skip)))
 (.seq (.region 0 [oQ 45 (.load true 3 (.t 2)),
 oQ 46 (.call 1 45 [(.t 45)]),
 oP 44 (.move (.t 46)),
 oP 47 (.extract (.t 44) 0),
 oP 48 (.extract (.t 44) 1),
 oP 9 (.move (.t 47)),
 oP 10 (.move (.t 48))])
 (.seq (.seq (.region 0 [oQ 49 (.load true 3 (.t 8)),
 oQ 50 (.call 1 19 [(.t 49)]),
 oP 51 (.bin .eql (.t 50) (.c (.int .i64 0)))])
 (.cond (.t 51) (.seq (.region 0 [oQ 53 (.load true 3 (.t 8)),
 oQ 54 (.call 1 51 [(.t 53)]),
 oP 52 (.move (.t 54)),
 oP 55 (.extract (.t 52) 0),
 oP 56 (.extract (.t 52) 1),
 oP 57 (.extract (.t 52) 2),
 oP 11 (.move (.t 55)),
 oP 12 (.move (.t 56)),
 oP 13 (.move (.t 57))])
 (.seq (.region 0 [oP 58 (.move (.t 13)),
 oP 59 (.un .not (.t 58)),
 oP 60 (.move (.t 59)),
 oG 61 60 false (.move (.t 10)),
 oG 62 60 false (.bin .neq (.t 61) (.c (.int .i64 0))),
 oP 63 (.pick (.t 60) (.c (.bool true)) (.t 62)),
 oP 64 (.move (.t 63)),
 oG 65 64 false (.move (.t 11)),
 oG 66 64 false (.move (.t 5)),
 oG 67 64 false (.bin .gtr (.t 65) (.t 66)),
 oP 68 (.pick (.t 64) (.c (.bool true)) (.t 67)),
 oP 69 (.move (.t 68)),
 oG 70 69 false (.move (.t 12)),
 oG 71 69 false (.move (.t 6)),
 oG 72 69 false (.bin .gtr (.t 70) (.t 71)),
 oP 73 (.pick (.t 69) (.c (.bool true)) (.t 72)),
 oP 74 (.move (.t 73)),
 oG 75 74 false (.move (.t 9)),
 oG 76 74 false (.move (.t 5)),
 oG 77 74 false (.move (.t 11)),
 oG 78 74 false (.bin .sub (.t 76) (.t 77)),
 oG 79 74 false (.bin .neq (.t 75) (.t 78)),
 oP 80 (.pick (.t 74) (.c (.bool true)) (.t 79))])
 (.cond (.t 80) (.seq (.region 0 [oP 4 (.move (.c (.bool false)))])
 (.ret))
 (.skip))))
 (.seq (.region 0 [oP 81 (.move (.t 10)),
 oP 82 (.bin .neq (.t 81) (.c (.int .i64 2)))])
 (.cond (.t 82) (.seq (.region 0 [oP 4 (.move (.c (.bool false)))])
 (.ret))
 (.skip)))))
 (.seq (.region 0 [oQ 83 (.load true 3 (.t 2)),
 oQ 84 (.call 2 16 [(.t 83)]),
 oQ 14 (.alloc [.int .i64 0, .nils, .nils]),
 ⟨none, .store 3 (.t 14) (.t 84), none, none, []⟩])
 (.seq (.region 3 [⟨(some 85), .buildSlice 4 0 [.int .i64 0, .int .i64 0, .int .i64 0, .int .i64 0] [], none, (some 0), []⟩,
 oP 86 (.fieldAddr 1 (.t 2)),
 ⟨(some 87), .load false 1 (.t 86), none, none, [0, 1, 2]⟩,
 oP 88 (.move (.t 1)),
 oP 89 (.slice 4 (.t 87) none (some (.t 88))),
 ⟨(some 90), .append true 4 32 (.t 85) (.t 89), none, (some 1), [2]⟩,
 oP 91 (.fieldAddr 1 (.t 2)),
 ⟨(some 92), .load false 1 (.t 91), none, none, [0, 1, 2]⟩,
 oP 93 (.move (.t 1)),
 oP 94 (.bin .add (.t 93) (.c (.int .i64 1))),
 oP 95 (.slice 4 (.t 92) (some (.t 94)) none),
 ⟨(some 96), .append false 4 32 (.t 90) (.t 95), none, (some 2), []⟩,
 oP 97 (.fieldAddr 1 (.t 14)),
 ⟨none, .store 1 (.t 97) (.t 96), none, none, []⟩])
 (.seq (.seq (.region 0 [oP 15 (.move (.c (.int .i64 0)))])
 (.block 0 (.loop (.seq (.seq (.region 0 [oP 98 (.move (.t 15)),
 oP 99 (.fieldAddr 2 (.t 2)),
 oQ 100 (.load false 1 (.t 99)),
 oP 101 (.lenS (.t 100)),
 oP 102 (.bin .lss (.t 98) (.t 101))])
 (.cond (.t 102) (.skip)
 (.exit 0)))
 (.seq (.block 1 (.seq (.region 0 [oP 105 (.fieldAddr 2 (.t 2)),
 oQ 106 (.load false 1 (.t 105)),
 oP 107 (.move (.t 15)),
 oP 108 (.idxSl 2 (.t 106) (.t 107)),
 oQ 109 (.load true 2 (.t 108)),
 oQ 16 (.alloc [.int .i64 0, .int .i64 0]),
 ⟨none, .store 2 (.t 16) (.t 109), none, none, []⟩])
 (.seq (.seq (.region 0 [oP 110 (.fieldAddr 0 (.t 16)),
 oQ 111 (.load false 1 (.t 110)),
 oP 112 (.move (.t 1)),
 oP 113 (.bin .eql (.t 111) (.t 112)),
 oP 114 (.move (.t 113)),
 oG 115 114 false (.fieldAddr 1 (.t 16)),
 ⟨(some 116), .load false 1 (.t 115), (some (114, false)), none, []⟩,
 oG 117 114 false (.move (.t 1)),
 oG 118 114 false (.bin .eql (.t 116) (.t 117)),
 oP 119 (.pick (.t 114) (.c (.bool true)) (.t 118))])
 (.cond (.t 119) (.seq (.region 0 [oQ 120 (.call 1 15 []),
 oP 4 (.move (.t 120))])
 (.ret))
 (.skip)))
 (.seq (.seq (.region 0 [oP 121 (.fieldAddr 0 (.t 16)),
 oQ 122 (.load false 1 (.t 121)),
 oP 123 (.move (.t 1)),
 oP 124 (.bin .gtr (.t 122) (.t 123))])
 (.cond (.t 124) (.region 0 [oP 125 (.fieldAddr 0 (.t 16)),
 oQ 126 (.load false 1 (.t 125)),
 oP 127 (.bin .sub (.t 126) (.c (.int .i64 1))),
 oP 128 (.fieldAddr 0 (.t 16)),
 ⟨none, .store 1 (.t 128) (.t 127), none, none, []⟩])
 (.skip)))
 (.seq (.seq (.region 0 [oP 129 (.fieldAddr 1 (.t 16)),
 oQ 130 (.load false 1 (.t 129)),
 oP 131 (.move (.t 1)),
 oP 132 (.bin .gtr (.t 130) (.t 131))])
 (.cond (.t 132) (.region 0 [oP 133 (.fieldAddr 1 (.t 16)),
 oQ 134 (.load false 1 (.t 133)),
 oP 135 (.bin .sub (.t 134) (.c (.int .i64 1))),
 oP 136 (.fieldAddr 1 (.t 16)),
 ⟨none, .store 1 (.t 136) (.t 135), none, none, []⟩])
 (.skip)))
 (.region 0 [oP 137 (.fieldAddr 2 (.t 14)),
 oQ 138 (.load false 1 (.t 137)),
 oP 139 (.move (.t 15)),
 oQ 140 (.load true 2 (.t 16)),
 oP 141 (.idxSl 2 (.t 138) (.t 139)),
 ⟨none, .store 2 (.t 141) (.t 140), none, none, []⟩]))))))
 (.region 0 [oP 103 (.move (.t 15)),
 oP 104 (.bin .add (.t 103) (.c (.int .i64 1))),
 oP 15 (.move (.t 104))]))))))
 (.seq (.region 0 [oQ 143 (.load true 3 (.t 14)),
 oQ 144 (.call 1 51 [(.t 143)]),
 oP 142 (.move (.t 144)),
 oP 145 (.extract (.t 142) 0),
 oP 146 (.extract (.t 142) 1),
 oP 147 (.extract (.t 142) 2),
 oP 17 (.move (.t 145)),
 oP 18 (.move (.t 146)),
 oP 19 (.move (.t 147))])
 (.seq (.region 0 [oP 148 (.move (.t 19)),
 oP 149 (.move (.t 148)),
 oG 150 149 true (.move (.t 17)),
 oG 151 149 true (.move (.t 5)),
 oG 152 149 true (.bin .leq (.t 150) (.t 151)),
 oP 153 (.pick (.t 149) (.t 152) (.c (.bool false))),
 oP 154 (.move (.t 153)),
 oG 155 154 true (.move (.t 18)),
 oG 156 154 true (.move (.t 6)),
 oG 157 154 true (.bin .leq (.t 155) (.t 156)),
 oP 158 (.pick (.t 154) (.t 157) (.c (.bool false))),
 oP 159 (.move (.t 158)),
 ⟨(some 160), .call 1 15 [], (some (159, true)), none, []⟩,
 oP 161 (.pick (.t 159) (.t 160) (.c (.bool false))),
 oP 4 (.move (.t 161))])
 (.ret)))))))))))))⟩
/-- almadraba/almadrabalaw04.MeshFewer -/
def f11 : AFn := ⟨149, [.tmp 6],
 .seq (.region 0 [oQ 3 (.box (.t 0)),
 oQ 4 (.box (.t 1)),
 oP 6 (.move (.c (.bool false)))])
 (.seq (.seq (.region 0 [oQ 19 (.load true 3 (.t 3)),
 oQ 20 (.call 1 49 [(.t 19), (.c (.int .i64 4))]),
 oP 21 (.un .not (.t 20)),
 oP 22 (.move (.t 21)),
 oG 23 22 false (.move (.t 2)),
 oG 24 22 false (.lenS (.t 23)),
 oG 25 22 false (.bin .gtr (.t 24) (.c (.int .i64 40))),
 oP 26 (.pick (.t 22) (.c (.bool true)) (.t 25)),
 oP 27 (.move (.t 26)),
 ⟨(some 28), .load true 3 (.t 3), (some (27, false)), none, []⟩,
 oG 29 27 false (.fieldAddr 0 (.t 4)),
 ⟨(some 30), .load false 1 (.t 29), (some (27, false)), none, []⟩,
 ⟨(some 31), .call 1 55 [(.t 28), (.t 30)], (some (27, false)), none, []⟩,
 oG 32 27 false (.un .not (.t 31)),
 oP 33 (.pick (.t 27) (.c (.bool true)) (.t 32)),
 oP 34 (.move (.t 33)),
 oG 35 34 false (.fieldAddr 1 (.t 4)),
 oG 36 34 false (.fieldAddr 0 (.t 35)),
 ⟨(some 37), .load false 1 (.t 36), (some (34, false)), none, []⟩,
 oG 38 34 false (.fieldAddr 1 (.t 4)),
 oG 39 34 false (.fieldAddr 1 (.t 38)),
 ⟨(some 40), .load false 1 (.t 39), (some (34, false)), none, []⟩,
 oG 41 34 false (.bin .gtr (.t 37) (.t 40)),
 oP 42 (.pick (.t 34) (.c (.bool true)) (.t 41)),
 oP 43 (.move (.t 42)),
 oG 44 43 false (.fieldAddr 1 (.t 4)),
 oG 45 43 false (.fieldAddr 0 (.t 44)),
 ⟨(some 46), .load false 1 (.t 45), (some (43, false)), none, []⟩,
 oG 47 43 false (.fieldAddr 1 (.t 3)),
 ⟨(some 48), .load false 1 (.t 47), (some (43, false)), none, []⟩,
 oG 49 43 false (.fieldAddr 0 (.t 4)),
 ⟨(some 50), .load false 1 (.t 49), (some (43, false)), none, []⟩,
 oG 51 43 false (.idxSl 4 (.t 48) (.t 50)),
 oG 52 43 false (.fieldAddr 1 (.t 51)),
 oG 53 43 false (.fieldAddr 0 (.t 52)),
 ⟨(some 54), .load false 1 (.t 53), (some (43, false)), none, []⟩,
 oG 55 43 false (.bin .lss (.t 46) (.t 54)),
 oP 56 (.pick (.t 43) (.c (.bool true)) (.t 55)),
 oP 57 (.move (.t 56)),
 oG 58 57 false (.fieldAddr 1 (.t 4)),
 oG 59 57 false (.fieldAddr 1 (.t 58)),
 ⟨(some 60), .load false 1 (.t 59), (some (57, false)), none, []⟩,
 oG 61 57 false (.fieldAddr 1 (.t 3)),
 ⟨(some 62), .load false 1 (.t 61), (some (57, false)), none, []⟩,
 oG 63 57 false (.fieldAddr 0 (.t 4)),
 ⟨(some 64), .load false 1 (.t 63), (some (57, false)), none, []⟩,
 oG 65 57 false (.idxSl 4 (.t 62) (.t 64)),
 oG 66 57 false (.fieldAddr 1 (.t 65)),
 oG 67 57 false (.fieldAddr 1 (.t 66)),
 ⟨(some 68), .load false 1 (.t 67), (some (57, false)), none, []⟩,
 oG 69 57 false (.bin .gtr (.t 60) (.t 68)),
 oP 70 (.pick (.t 57) (.c (.bool true)) (.t 69))])
 (.cond (.t 70) (.seq (.region 0 [oQ 71 (.call 1 15 []),
 oP 6 (.move (.t 71))])
 (.ret))
 (.skip)))
 (.seq (.region 0 [oQ 72 (.load true 3 (.t 3)),
 oQ 73 (.call 2 16 [(.t 72)]),
 oQ 7 (.alloc [.int .i64 0, .nils, .nils]),
 ⟨none, .store 3 (.t 7) (.t 73), none, none, []⟩])
 (.seq (.region 0 [oP 74 (.fieldAddr 1 (.t 7)),
 oQ 75 (.load false 1 (.t 74)),
 oP 76 (.fieldAddr 0 (.t 4)),
 oQ 77 (.load false 1 (.t 76)),
 oP 78 (.idxSl 4 (.t 75) (.t 77)),
 oQ 79 (.load true 4 (.t 78)),
 oQ 8 (.alloc [.int .i64 0, .int .i64 0, .int .i64 0, .int .i64 0]),
 ⟨none, .store 4 (.t 8) (.t 79), none, none, []⟩])
 (.seq (.region 0 [oP 80 (.fieldAddr 1 (.t 4)),
 oQ 81 (.load true 2 (.t 80)),
 oP 82 (.fieldAddr 1 (.t 8)),
 ⟨none, .store 2 (.t 82) (.t 81), none, none, []⟩])
 (.seq (.region 0 [oP 83 (.fieldAddr 1 (.t 7)),
 oQ 84 (.load false 1 (.t 83)),
 oP 85 (.fieldAddr 0 (.t 4)),
 oQ 86 (.load false 1 (.t 85)),
 oQ 87 (.load true 4 (.t 8)),
 oP 88 (.idxSl 4 (.t 84) (.t 86)),
 ⟨none, .store 4 (.t 88) (.t 87), none, none, []⟩])
 (.seq (.region 0 [oQ 90 (.load true 3 (.t 3)),
 oQ 91 (.call 1 51 [(.t 90)]),
 oP 89 (.move (.t 91)),
 oP 92 (.extract (.t 89) 0),
 oP 93 (.extract (.t 89) 1),
 oP 94 (.extract (.t 89) 2),
 oP 9 (.move (.t 92)),
 oP 10 (.move (.t 93)),
 oP 11 (.move (.t 94))])
 (.seq (.region 0 [oQ 96 (.load true 3 (.t 7)),
 oQ 97 (.call 1 51 [(.t 96)]),
 oP 95 (.move (.t 97)),
 oP 98 (.extract (.t 95) 0),
 oP 99 (.extract (.t 95) 1),
 oP 100 (.extract (.t 95) 2),
 oP 12 (.move (.t 98)),
 oP 13 (.move (.t 99)),
 oP 14 (.move (.t 100))])
 (.seq (.seq (.region 0 [oP 101 (.move (.t 11)),
 oP 102 (.un .not (.t 101)),
 oP 103 (.move (.t 102)),
 oG 104 103 false (.move (.t 14)),
 oG 105 103 false (.un .not (.t 104)),
 oP 106 (.pick (.t 103) (.c (.bool true)) (.t 105)),
 oP 107 (.move (.t 106)),
 oG 108 107 false (.move (.t 12)),
 oG 109 107 false (.move (.t 9)),
 oG 110 107 false (.bin .gtr (.t 108) (.t 109)),
 oP 111 (.pick (.t 107) (.c (.bool true)) (.t 110))])
 (.cond (.t 111) (.seq (.region 0 [oP 6 (.move (.c (.bool false)))])
 (.ret))
 (.skip)))
 (.seq (.seq (.region 0 [oQ 112 (.load true 3 (.t 3)),
 oP 113 (.move (.t 2)),
 oQ 114 (.call 1 50 [(.t 112), (.t 113)]),
 oP 115 (.un .not (.t 114))])
 (.cond (.t 115) (.seq (.region 0 [oQ 116 (.call 1 15 []),
 oP 6 (.move (.t 116))])
 (.ret))
 (.skip)))
 (.seq (.region 0 [oQ 118 (.load true 3 (.t 3)),
 oP 119 (.move (.t 2)),
 oQ 120 (.call 1 17 [(.t 119)]),
 oQ 121 (.call 1 41 [(.t 118), (.t 120)]),
 oP 117 (.move (.t 121)),
 oP 122 (.extract (.t 117) 0),
 oP 123 (.extract (.t 117) 1),
 oP 15 (.move (.t 122)),
 oP 16 (.move (.t 123))])
 (.seq (.region 0 [oQ 125 (.load true 3 (.t 7)),
 oP 126 (.move (.t 2)),
 oQ 127 (.call 1 17 [(.t 126)]),
 oQ 128 (.call 1 41 [(.t 125), (.t 127)]),
 oP 124 (.move (.t 128)),
 oP 129 (.extract (.t 124) 0),
 oP 130 (.extract (.t 124) 1),
 oP 17 (.move (.t 129)),
 oP 18 (.move (.t 130))])
 (.seq (.region 0 [oP 131 (.move (.t 16)),
 oP 132 (.bin .eql (.t 131) (.c (.int .i64 0))),
 oP 133 (.move (.t 132)),
 oG 134 133 true (.move (.t 18)),
 oG 135 133 true (.bin .eql (.t 134) (.c (.int .i64 0))),
 oP 136 (.pick (.t 133) (.t 135) (.c (.bool false))),
 oP 137 (.move (.t 136)),
 oG 138 137 true (.move (.t 17)),
 oG 139 137 true (.bin .geq (.t 138) (.c (.int .i64 0))),
 oP 140 (.pick (.t 137) (.t 139) (.c (.bool false))),
 oP 141 (.move (.t 140)),
 oG 142 141 true (.move (.t 17)),
 oG 143 141 true (.move (.t 15)),
 oG 144 141 true (.bin .leq (.t 142) (.t 143)),
 oP 145 (.pick (.t 141) (.t 144) (.c (.bool false))),
 oP 146 (.move (.t 145)),
 ⟨(some 147), .call 1 15 [], (some (146, true)), none, []⟩,
 oP 148 (.pick (.t 146) (.t 147) (.c (.bool false))),
 oP 6 (.move (.t 148))])
 (.ret)))))))))))))⟩
/-- almadraba/almadrabalaw04.MeshRopes -/
def f12 : AFn := ⟨182, [.tmp 6],
 .seq (.region 0 [oQ 3 (.box (.t 0)),
 oQ 4 (.box (.t 1)),
 oP 6 (.move (.c (.bool false)))])
 (.seq (.seq (.region 0 [oQ 26 (.load true 3 (.t 3)),
 oQ 27 (.call 1 49 [(.t 26), (.c (.int .i64 5))]),
 oP 28 (.un .not (.t 27)),
 oP 29 (.move (.t 28)),
 oG 30 29 false (.move (.t 2)),
 oG 31 29 false (.lenS (.t 30)),
 oG 32 29 false (.bin .gtr (.t 31) (.c (.int .i64 40))),
 oP 33 (.pick (.t 29) (.c (.bool true)) (.t 32))])
 (.cond (.t 33) (.seq (.region 0 [oQ 34 (.call 1 15 []),
 oP 6 (.move (.t 34))])
 (.ret))
 (.skip)))
 (.seq (.region 0 [oQ 36 (.load true 3 (.t 3)),
 oQ 37 (.call 1 51 [(.t 36)]),
 oP 35 (.move (.t 37)),
 oP 38 (.extract (.t 35) 0),
 oP 39 (.extract (.t 35) 1),
 oP 40 (.extract (.t 35) 2),
 oP 7 (.move (.t 38)),
 oP 8 (.move (.t 39)),
 oP 9 (.move (.t 40))])
 (.seq (.region 0 [oQ 42 (.load true 3 (.t 3)),
 oQ 43 (.call 1 47 [(.t 42)]),
 oP 41 (.move (.t 43)),
 oP 44 (.extract (.t 41) 0),
 oP 45 (.extract (.t 41) 1),
 oP 10 (.move (.t 44)),
 oP 11 (.move (.t 45))])
 (.seq (.seq (.region 0 [oP 46 (.move (.t 9)),
 oP 47 (.un .not (.t 46)),
 oP 48 (.move (.t 47)),
 oG 49 48 false (.move (.t 11)),
 oG 50 48 false (.bin .eql (.t 49) (.c (.int .i64 0))),
 oG 51 48 false (.fieldAddr 2 (.t 3)),
 ⟨(some 52), .load false 1 (.t 51), (some (48, false)), none, []⟩,
 oG 53 48 false (.lenS (.t 52)),
 oG 54 48 false (.bin .gtr (.t 53) (.c (.int .i64 0))),
 oG 55 48 false (.eqB true (.t 50) (.t 54)),
 oP 56 (.pick (.t 48) (.c (.bool true)) (.t 55)),
 oP 57 (.move (.t 56)),
 oG 58 57 false (.move (.t 11)),
 oG 59 57 false (.bin .neq (.t 58) (.c (.int .i64 0))),
 oG 60 57 false (.move (.t 59)),
 oG 61 60 true (.move (.t 11)),
 oG 62 60 true (.bin .neq (.t 61) (.c (.int .i64 3))),
 oG 63 57 false (.pick (.t 60) (.t 62) (.c (.bool false))),
 oP 64 (.pick (.t 57) (.c (.bool true)) (.t 63))])
 (.cond (.t 64) (.seq (.region 0 [oP 6 (.move (.c (.bool false)))])
 (.ret))
 (.skip)))
 (.seq (.seq (.region 0 [oP 65 (.move (.t 11)),
 oP 66 (.bin .eql (.t 65) (.c (.int .i64 0)))])
 (.cond (.t 66) (.seq (.seq (.region 0 [oP 67 (.move (.t 10)),
 oP 68 (.fieldAddr 2 (.t 3)),
 oQ 69 (.load false 1 (.t 68)),
 oP 70 (.lenS (.t 69)),
 oP 71 (.bin .sub (.t 70) (.c (.int .i64 1))),
 oQ 72 (.call 1 54 [(.t 67), (.c (.int .i64 0)), (.t 71)]),
 oP 73 (.un .not (.t 72))])
 (.cond (.t 73) (.seq (.region 0 [oP 6 (.move (.c (.bool false)))])
 (.ret))
 (.skip)))
 (.seq (.region 0 [oQ 75 (.load true 3 (.t 3)),
 oP 76 (.move (.t 10)),
 oQ 77 (.call 1 56 [(.t 75), (.t 76)]),
 oQ 78 (.call 1 51 [(.t 77)]),
 oP 74 (.move (.t 78)),
 oP 79 (.extract (.t 74) 0),
 oP 80 (.extract (.t 74) 1),
 oP 81 (.extract (.t 74) 2),
 oP 12 (.move (.t 79)),
 oP 13 (.move (.t 80)),
 oP 14 (.move (.t 81))])
 (.seq (.region 0 [oQ 83 (.load true 3 (.t 3)),
 oQ 84 (.call 1 56 [(.t 83), (.c (.int .i64 0))]),
 oQ 85 (.call 1 51 [(.t 84)]),
 oP 82 (.move (.t 85)),
 oP 86 (.extract (.t 82) 0),
 oP 87 (.extract (.t 82) 1),
 oP 88 (.extract (.t 82) 2),
 oP 15 (.move (.t 86)),
 oP 16 (.move (.t 87)),
 oP 17 (.move (.t 88))])
 (.seq (.region 0 [oP 89 (.move (.t 14)),
 oP 90 (.un .not (.t 89)),
 oP 91 (.move (.t 90)),
 oG 92 91 false (.move (.t 17)),
 oG 93 91 false (.un .not (.t 92)),
 oP 94 (.pick (.t 91) (.c (.bool true)) (.t 93)),
 oP 95 (.move (.t 94)),
 oG 96 95 false (.move (.t 12)),
 oG 97 95 false (.move (.t 7)),
 oG 98 95 false (.bin .gtr (.t 96) (.t 97)),
 oP 99 (.pick (.t 95) (.c (.bool true)) (.t 98)),
 oP 100 (.move (.t 99)),
 oG 101 100 false (.move (.t 12)),
 oG 102 100 false (.move (.t 15)),
 oG 103 100 false (.bin .gtr (.t 101) (.t 102)),
 oP 104 (.pick (.t 100) (.c (.bool true)) (.t 103)),
 oP 105 (.move (.t 104)),
 oG 106 105 false (.move (.t 12)),
 oG 107 105 false (.move (.t 15)),
 oG 108 105 false (.bin .eql (.t 106) (.t 107)),
 oG 109 105 false (.move (.t 108)),
 oG 110 109 true (.move (.t 10)),
 oG 111 109 true (.bin .gtr (.t 110) (.c (.int .i64 0))),
 oG 112 105 false (.pick (.t 109) (.t 111) (.c (.bool false))),
 oP 113 (.pick (.t 105) (.c (.bool true)) (.t 112))])
 (.cond (.t 113) (.seq (.region 0 [oP 6 (.move (.c (.bool false)))])
 (.ret))
 (.skip))))))
 (.skip)))
 (.seq (.region 0 [oQ 114 (.load true 3 (.t 3)),
 oQ 115 (.call 2 16 [(.t 114)]),
 oQ 18 (.alloc [.int .i64 0, .nils, .nils]),
 ⟨none, .store 3 (.t 18) (.t 115), none, none, []⟩])
 (.seq (.region 0 [oP 116 (.fieldAddr 2 (.t 18)),
 oQ 117 (.load false 1 (.t 116)),
 oQ 118 (.load true 2 (.t 4)),
 oQ 119 (.litS 2 1 [.int .i64 0, .int .i64 0] [(0, (.t 118))]),
 oQ 120 (.append false 2 16 (.t 117) (.t 119)),
 oP 121 (.fieldAddr 2 (.t 18)),
 ⟨none, .store 1 (.t 121) (.t 120), none, none, []⟩])
 (.seq (.seq (.region 0 [oQ 122 (.load true 3 (.t 18)),
 oQ 123 (.call 1 49 [(.t 122), (.c (.int .i64 5))]),
 oP 124 (.un .not (.t 123))])
 (.cond (.t 124) (.seq (.region 0 [oQ 125 (.call 1 15 []),
 oP 6 (.move (.t 125))])
 (.ret))
 (.skip)))
 (.seq (.region 0 [oQ 127 (.load true 3 (.t 18)),
 oQ 128 (.call 1 51 [(.t 127)]),
 oP 126 (.move (.t 128)),
 oP 129 (.extract (.t 126) 0),
 oP 130 (.extract (.t 126) 1),
 oP 131 (.extract (.t 126) 2),
 oP 19 (.move (.t 129)),
 oP 20 (.move (.t 130)),
 oP 21 (.move (.t 131))])
 (.seq (.region 0 [oQ 133 (.load true 3 (.t 18)),
 oP 134 (.move (.t 2)),
 oQ 135 (.call 1 17 [(.t 134)]),
 oQ 136 (.call 1 20 [(.t 133), (.t 135)]),
 oP 132 (.move (.t 136)),
 oP 137 (.extract (.t 132) 0),
 oP 138 (.extract (.t 132) 1),
 oP 22 (.move (.t 137)),
 oP 23 (.move (.t 138))])
 (.seq (.region 0 [oQ 140 (.load true 3 (.t 3)),
 oP 141 (.move (.t 2)),
 oQ 142 (.call 1 17 [(.t 141)]),
 oQ 143 (.call 1 20 [(.t 140), (.t 142)]),
 oP 139 (.move (.t 143)),
 oP 144 (.extract (.t 139) 0),
 oP 145 (.extract (.t 139) 1),
 oP 24 (.move (.t 144)),
 oP 25 (.move (.t 145))])
 (.seq (.region 0 [oP 146 (.move (.t 21)),
 oP 147 (.move (.t 146)),
 oG 148 147 true (.move (.t 19)),
 oG 149 147 true (.move (.t 7)),
 oG 150 147 true (.bin .geq (.t 148) (.t 149)),
 oP 151 (.pick (.t 147) (.t 150) (.c (.bool false))),
 oP 152 (.move (.t 151)),
 oG 153 152 true (.move (.t 20)),
 oG 154 152 true (.move (.t 8)),
 oG 155 152 true (.bin .geq (.t 153) (.t 154)),
 oP 156 (.pick (.t 152) (.t 155) (.c (.bool false))),
 oP 157 (.move (.t 156)),
 oG 158 157 true (.move (.t 23)),
 oG 159 157 true (.bin .eql (.t 158) (.c (.int .i64 0))),
 oP 160 (.pick (.t 157) (.t 159) (.c (.bool false))),
 oP 161 (.move (.t 160)),
 oG 162 161 true (.move (.t 25)),
 oG 163 161 true (.bin .eql (.t 162) (.c (.int .i64 0))),
 oP 164 (.pick (.t 161) (.t 163) (.c (.bool false))),
 oP 165 (.move (.t 164)),
 oG 166 165 true (.move (.t 22)),
 ⟨(some 167), .load true 3 (.t 18), (some (165, true)), none, []⟩,
 oG 168 165 true (.move (.t 2)),
 ⟨(some 169), .call 1 50 [(.t 167), (.t 168)], (some (165, true)), none, []⟩,
 oG 170 165 true (.eqB false (.t 166) (.t 169)),
 oP 171 (.pick (.t 165) (.t 170) (.c (.bool false))),
 oP 172 (.move (.t 171)),
 oG 173 172 true (.move (.t 22)),
 oG 174 172 true (.un .not (.t 173)),
 oG 175 172 true (.move (.t 174)),
 oG 176 175 false (.move (.t 24)),
 oG 177 172 true (.pick (.t 175) (.c (.bool true)) (.t 176)),
 oP 178 (.pick (.t 172) (.t 177) (.c (.bool false))),
 oP 179 (.move (.t 178)),
 ⟨(some 180), .call 1 15 [], (some (179, true)), none, []⟩,
 oP 181 (.pick (.t 179) (.t 180) (.c (.bool false))),
 oP 6 (.move (.t 181))])
 (.ret)))))))))))))⟩
/-- almadraba/almadrabalaw04.MeshRegret -/
def f13 : AFn := ⟨191, [.tmp 4],
 .seq (.region 0 [oQ 2 (.box (.t 0)),
 oQ 3 (.box (.t 1)),
 oP 4 (.move (.c (.bool false)))])
 (.seq (.region 0 [oP 19 (.fieldAddr 0 (.t 3)),
 oQ 20 (.load false 1 (.t 19)),
 oP 21 (.fieldAddr 1 (.t 3)),
 oQ 22 (.load false 1 (.t 21)),
 oP 23 (.fieldAddr 2 (.t 3)),
 oQ 24 (.load false 1 (.t 23)),
 oP 5 (.move (.t 20)),
 oP 6 (.move (.t 22)),
 oP 7 (.move (.t 24))])
 (.seq (.seq (.region 0 [oQ 25 (.load true 3 (.t 2)),
 oQ 26 (.call 1 49 [(.t 25), (.c (.int .i64 4))]),
 oP 27 (.un .not (.t 26)),
 oP 28 (.move (.t 27)),
 oG 29 28 false (.move (.t 5)),
 oG 30 28 false (.lenS (.t 29)),
 oG 31 28 false (.bin .gtr (.t 30) (.c (.int .i64 40))),
 oP 32 (.pick (.t 28) (.c (.bool true)) (.t 31)),
 oP 33 (.move (.t 32)),
 oG 34 33 false (.move (.t 6)),
 oG 35 33 false (.lenS (.t 34)),
 oG 36 33 false (.bin .gtr (.t 35) (.c (.int .i64 40))),
 oP 37 (.pick (.t 33) (.c (.bool true)) (.t 36)),
 oP 38 (.move (.t 37)),
 ⟨(some 39), .load true 3 (.t 2), (some (38, false)), none, []⟩,
 oG 40 38 false (.move (.t 5)),
 ⟨(some 41), .call 1 50 [(.t 39), (.t 40)], (some (38, false)), none, []⟩,
 oG 42 38 false (.un .not (.t 41)),
 oP 43 (.pick (.t 38) (.c (.bool true)) (.t 42)),
 oP 44 (.move (.t 43)),
 ⟨(some 45), .load true 3 (.t 2), (some (44, false)), none, []⟩,
 oG 46 44 false (.move (.t 6)),
 ⟨(some 47), .call 1 50 [(.t 45), (.t 46)], (some (44, false)), none, []⟩,
 oG 48 44 false (.un .not (.t 47)),
 oP 49 (.pick (.t 44) (.c (.bool true)) (.t 48)),
 oP 50 (.move (.t 49)),
 oG 51 50 false (.move (.t 7)),
 oG 52 50 false (.lenS (.t 51)),
 oG 53 50 false (.fieldAddr 1 (.t 2)),
 ⟨(some 54), .load false 1 (.t 53), (some (50, false)), none, []⟩,
 oG 55 50 false (.lenS (.t 54)),
 oG 56 50 false (.bin .neq (.t 52) (.t 55)),
 oP 57 (.pick (.t 50) (.c (.bool true)) (.t 56))])
 (.cond (.t 57) (.seq (.region 0 [oQ 58 (.call 1 15 []),
 oP 4 (.move (.t 58))])
 (.ret))
 (.skip)))
 (.seq (.region 0 [oP 8 (.move (.c (.bool true)))])
 (.seq (.seq (.region 0 [oP 9 (.move (.c (.int .i64 0)))])
 (.block 0 (.loop (.seq (.seq (.region 0 [oP 59 (.move (.t 9)),
 oP 60 (.move (.t 7)),
 oP 61 (.lenS (.t 60)),
 oP 62 (.bin .lss (.t 59) (.t 61))])
 (.cond (.t 62) (.skip)
 (.exit 0)))
 (.seq (.block 1 (.seq (.seq (.region 0 [oP 65 (.move (.t 7)),
 oP 66 (.move (.t 9)),
 oP 67 (.idxSl 1 (.t 65) (.t 66)),
 oQ 68 (.load false 1 (.t 67)),
 oP 69 (.fieldAddr 1 (.t 2)),
 oQ 70 (.load false 1 (.t 69)),
 oP 71 (.move (.t 9)),
 oP 72 (.idxSl 4 (.t 70) (.t 71)),
 oP 73 (.fieldAddr 1 (.t 72)),
 oP 74 (.fieldAddr 0 (.t 73)),
 oQ 75 (.load false 1 (.t 74)),
 oP 76 (.fieldAddr 1 (.t 2)),
 oQ 77 (.load false 1 (.t 76)),
 oP 78 (.move (.t 9)),
 oP 79 (.idxSl 4 (.t 77) (.t 78)),
 oP 80 (.fieldAddr 1 (.t 79)),
 oP 81 (.fieldAddr 1 (.t 80)),
 oQ 82 (.load false 1 (.t 81)),
 oQ 83 (.call 1 54 [(.t 68), (.t 75), (.t 82)]),
 oP 84 (.un .not (.t 83))])
 (.cond (.t 84) (.seq (.region 0 [oQ 85 (.call 1 15 []),
 oP 4 (.move (.t 85))])
 (.ret))
 (.skip)))
 (.region 0 [oP 86 (.move (.t 8)),
 oP 87 (.move (.t 86)),
 oG 88 87 true (.fieldAddr 1 (.t 2)),
 ⟨(some 89), .load false 1 (.t 88), (some (87, true)), none, []⟩,
 oG 90 87 true (.move (.t 9)),
 oG 91 87 true (.idxSl 4 (.t 89) (.t 90)),
 oG 92 87 true (.fieldAddr 1 (.t 91)),
 oG 93 87 true (.fieldAddr 1 (.t 92)),
 ⟨(some 94), .load false 1 (.t 93), (some (87, true)), none, []⟩,
 oG 95 87 true (.bin .eql (.t 94) (.c (.int .i64 0))),
 oP 96 (.pick (.t 87) (.t 95) (.c (.bool false))),
 oP 8 (.move (.t 96))])))
 (.region 0 [oP 63 (.move (.t 9)),
 oP 64 (.bin .add (.t 63) (.c (.int .i64 1))),
 oP 9 (.move (.t 64))]))))))
 (.seq (.region 0 [oQ 98 (.load true 3 (.t 2)),
 oP 99 (.move (.t 5)),
 oQ 100 (.call 1 17 [(.t 99)]),
 oQ 101 (.call 1 41 [(.t 98), (.t 100)]),
 oP 97 (.move (.t 101)),
 oP 102 (.extract (.t 97) 0),
 oP 103 (.extract (.t 97) 1),
 oP 10 (.move (.t 102)),
 oP 11 (.move (.t 103))])
 (.seq (.region 0 [oQ 105 (.load true 3 (.t 2)),
 oQ 106 (.call 1 51 [(.t 105)]),
 oP 104 (.move (.t 106)),
 oP 107 (.extract (.t 104) 0),
 oP 108 (.extract (.t 104) 1),
 oP 109 (.extract (.t 104) 2),
 oP 12 (.move (.t 107)),
 oP 13 (.move (.t 108)),
 oP 14 (.move (.t 109))])
 (.seq (.region 0 [oQ 111 (.load true 3 (.t 2)),
 oQ 112 (.call 1 43 [(.t 111)]),
 oP 110 (.move (.t 112)),
 oP 113 (.extract (.t 110) 0),
 oP 114 (.extract (.t 110) 1),
 oP 15 (.move (.t 113)),
 oP 16 (.move (.t 114))])
 (.seq (.seq (.region 0 [oP 115 (.move (.t 11)),
 oP 116 (.bin .neq (.t 115) (.c (.int .i64 0))),
 oP 117 (.move (.t 116)),
 oG 118 117 false (.move (.t 14)),
 oG 119 117 false (.un .not (.t 118)),
 oP 120 (.pick (.t 117) (.c (.bool true)) (.t 119)),
 oP 121 (.move (.t 120)),
 oG 122 121 false (.move (.t 16)),
 oG 123 121 false (.bin .neq (.t 122) (.c (.int .i64 0))),
 oP 124 (.pick (.t 121) (.c (.bool true)) (.t 123)),
 oP 125 (.move (.t 124)),
 oG 126 125 false (.move (.t 10)),
 oG 127 125 false (.bin .lss (.t 126) (.c (.int .i64 0))),
 oP 128 (.pick (.t 125) (.c (.bool true)) (.t 127)),
 oP 129 (.move (.t 128)),
 oG 130 129 false (.move (.t 10)),
 oG 131 129 false (.bin .gtr (.t 130) (.c (.int .i64 100000))),
 oP 132 (.pick (.t 129) (.c (.bool true)) (.t 131)),
 oP 133 (.move (.t 132)),
 ⟨(some 134), .load true 3 (.t 2), (some (133, false)), none, []⟩,
 oG 135 133 false (.move (.t 15)),
 ⟨(some 136), .call 1 50 [(.t 134), (.t 135)], (some (133, false)), none, []⟩,
 oG 137 133 false (.un .not (.t 136)),
 oP 138 (.pick (.t 133) (.c (.bool true)) (.t 137)),
 oP 139 (.move (.t 138)),
 oG 140 139 false (.move (.t 8)),
 oG 141 139 false (.move (.t 140)),
 oG 142 141 true (.move (.t 10)),
 oG 143 141 true (.bin .gtr (.t 142) (.c (.int .i64 0))),
 oG 144 139 false (.pick (.t 141) (.t 143) (.c (.bool false))),
 oP 145 (.pick (.t 139) (.c (.bool true)) (.t 144)),
 oP 146 (.move (.t 145)),
 ⟨(some 147), .load true 3 (.t 2), (some (146, false)), none, []⟩,
 oG 148 146 false (.move (.t 5)),
 oG 149 146 false (.move (.t 7)),
 ⟨(some 150), .call 1 57 [(.t 147), (.t 148), (.t 149)], (some (146, false)), none, []⟩,
 ⟨(some 151), .load true 3 (.t 2), (some (146, false)), none, []⟩,
 oG 152 146 false (.move (.t 6)),
 oG 153 146 false (.move (.t 7)),
 ⟨(some 154), .call 1 57 [(.t 151), (.t 152), (.t 153)], (some (146, false)), none, []⟩,
 oG 155 146 false (.bin .sub (.t 150) (.t 154)),
 oG 156 146 false (.move (.t 10)),
 oG 157 146 false (.bin .gtr (.t 155) (.t 156)),
 oP 158 (.pick (.t 146) (.c (.bool true)) (.t 157)),
 oP 159 (.move (.t 158)),
 oG 160 159 false (.move (.t 10)),
 oG 161 159 false (.bin .eql (.t 160) (.c (.int .i64 0))),
 oG 162 159 false (.move (.t 161)),
 ⟨(some 163), .load true 3 (.t 2), (some (162, true)), none, []⟩,
 oG 164 162 true (.move (.t 5)),
 ⟨(some 165), .call 1 52 [(.t 163), (.t 164)], (some (162, true)), none, []⟩,
 oG 166 162 true (.move (.t 12)),
 oG 167 162 true (.bin .neq (.t 165) (.t 166)),
 oG 168 159 false (.pick (.t 162) (.t 167) (.c (.bool false))),
 oP 169 (.pick (.t 159) (.c (.bool true)) (.t 168))])
 (.cond (.t 169) (.seq (.region 0 [oP 4 (.move (.c (.bool false)))])
 (.ret))
 (.skip)))
 (.seq (.region 0 [oQ 171 (.load true 3 (.t 2)),
 oP 172 (.move (.t 15)),
 oQ 173 (.call 1 17 [(.t 172)]),
 oQ 174 (.call 1 41 [(.t 171), (.t 173)]),
 oP 170 (.move (.t 174)),
 oP 175 (.extract (.t 170) 0),
 oP 176 (.extract (.t 170) 1),
 oP 17 (.move (.t 175)),
 oP 18 (.move (.t 176))])
 (.seq (.region 0 [oP 177 (.move (.t 18)),
 oP 178 (.bin .eql (.t 177) (.c (.int .i64 0))),
 oP 179 (.move (.t 178)),
 oG 180 179 true (.move (.t 17)),
 oG 181 179 true (.bin .geq (.t 180) (.c (.int .i64 0))),
 oP 182 (.pick (.t 179) (.t 181) (.c (.bool false))),
 oP 183 (.move (.t 182)),
 oG 184 183 true (.move (.t 17)),
 oG 185 183 true (.move (.t 10)),
 oG 186 183 true (.bin .leq (.t 184) (.t 185)),
 oP 187 (.pick (.t 183) (.t 186) (.c (.bool false))),
 oP 188 (.move (.t 187)),
 ⟨(some 189), .call 1 15 [], (some (188, true)), none, []⟩,
 oP 190 (.pick (.t 188) (.t 189) (.c (.bool false))),
 oP 4 (.move (.t 190))])
 (.ret)))))))))))⟩
/-- almadraba/almadrabalaw04.Huge -/
def f14 : AFn := ⟨20, [.tmp 4],
 .seq (.region 0 [oQ 2 (.box (.t 0)),
 oP 4 (.move (.c (.bool false)))])
 (.seq (.region 0 [oP 5 (.fieldAddr 1 (.t 2)),
 oQ 6 (.load false 1 (.t 5)),
 oP 7 (.lenS (.t 6)),
 oP 8 (.bin .gtr (.t 7) (.c (.int .i64 40))),
 oP 9 (.move (.t 8)),
 oG 10 9 false (.fieldAddr 2 (.t 2)),
 ⟨(some 11), .load false 1 (.t 10), (some (9, false)), none, []⟩,
 oG 12 9 false (.lenS (.t 11)),
 oG 13 9 false (.bin .gtr (.t 12) (.c (.int .i64 40))),
 oP 14 (.pick (.t 9) (.c (.bool true)) (.t 13)),
 oP 15 (.move (.t 14)),
 oG 16 15 false (.move (.t 1)),
 oG 17 15 false (.lenS (.t 16)),
 oG 18 15 false (.bin .gtr (.t 17) (.c (.int .i64 40))),
 oP 19 (.pick (.t 15) (.c (.bool true)) (.t 18)),
 oP 4 (.move (.t 19))])
 (.ret))⟩
/-- almadraba/almadrabalaw04.works -/
def f15 : AFn := ⟨101, [.tmp 0],
 .seq (.region 0 [oP 0 (.move (.c (.bool false)))])
 (.seq (.region 0 [oQ 16 (.call 1 58 []),
 oP 15 (.move (.t 16)),
 oP 17 (.extract (.t 15) 0),
 oP 18 (.extract (.t 15) 1),
 oQ 1 (.alloc [.int .i64 0, .nils, .nils]),
 oQ 2 (.alloc [.int .i64 0, .nils, .nils]),
 ⟨none, .store 3 (.t 1) (.t 17), none, none, []⟩,
 ⟨none, .store 3 (.t 2) (.t 18), none, none, []⟩])
 (.seq (.region 0 [oQ 20 (.load true 3 (.t 1)),
 oQ 21 (.litS 1 3 [.int .i64 0] [(0, (.c (.int .i64 1))), (1, (.c (.int .i64 0))), (2, (.c (.int .i64 2)))]),
 oQ 22 (.call 1 22 [(.t 20), (.t 21)]),
 oP 19 (.move (.t 22)),
 oP 23 (.extract (.t 19) 0),
 oP 24 (.extract (.t 19) 1),
 oP 3 (.move (.t 23)),
 oP 4 (.move (.t 24))])
 (.seq (.region 0 [oQ 26 (.load true 3 (.t 1)),
 oQ 27 (.litS 1 3 [.int .i64 0] [(0, (.c (.int .i64 0))), (1, (.c (.int .i64 2))), (2, (.c (.int .i64 1)))]),
 oQ 28 (.call 1 24 [(.t 26), (.t 27)]),
 oP 25 (.move (.t 28)),
 oP 29 (.extract (.t 25) 0),
 oP 30 (.extract (.t 25) 1),
 oQ 5 (.alloc [.int .i64 0, .int .i64 0]),
 ⟨none, .store 2 (.t 5) (.t 29), none, none, []⟩,
 oP 6 (.move (.t 30))])
 (.seq (.region 0 [oQ 32 (.load true 3 (.t 2)),
 oQ 33 (.call 1 29 [(.t 32)]),
 oP 31 (.move (.t 33)),
 oP 34 (.extract (.t 31) 0),
 oP 35 (.extract (.t 31) 1),
 oP 7 (.move (.t 34)),
 oP 8 (.move (.t 35))])
 (.seq (.region 0 [oQ 37 (.load true 3 (.t 1)),
 oQ 38 (.call 1 37 [(.t 37)]),
 oP 36 (.move (.t 38)),
 oP 39 (.extract (.t 36) 0),
 oP 40 (.extract (.t 36) 1),
 oP 9 (.move (.t 39)),
 oP 10 (.move (.t 40))])
 (.seq (.region 0 [oQ 42 (.load true 3 (.t 1)),
 oQ 43 (.litS 1 3 [.int .i64 0] [(0, (.c (.int .i64 1))), (1, (.c (.int .i64 0))), (2, (.c (.int .i64 2)))]),
 oQ 44 (.call 1 41 [(.t 42), (.t 43)]),
 oP 41 (.move (.t 44)),
 oP 45 (.extract (.t 41) 0),
 oP 46 (.extract (.t 41) 1),
 oP 11 (.move (.t 45)),
 oP 12 (.move (.t 46))])
 (.seq (.region 0 [oQ 48 (.load true 3 (.t 2)),
 oQ 49 (.call 1 35 [(.t 48)]),
 oP 47 (.move (.t 49)),
 oP 50 (.extract (.t 47) 0),
 oP 51 (.extract (.t 47) 1),
 oP 13 (.move (.t 50)),
 oP 14 (.move (.t 51))])
 (.seq (.region 0 [oP 52 (.move (.t 4)),
 oP 53 (.bin .eql (.t 52) (.c (.int .i64 0))),
 oP 54 (.move (.t 53)),
 oG 55 54 true (.move (.t 6)),
 oG 56 54 true (.bin .eql (.t 55) (.c (.int .i64 0))),
 oP 57 (.pick (.t 54) (.t 56) (.c (.bool false))),
 oP 58 (.move (.t 57)),
 oG 59 58 true (.move (.t 8)),
 oG 60 58 true (.bin .eql (.t 59) (.c (.int .i64 0))),
 oP 61 (.pick (.t 58) (.t 60) (.c (.bool false))),
 oP 62 (.move (.t 61)),
 oG 63 62 true (.move (.t 10)),
 oG 64 62 true (.bin .eql (.t 63) (.c (.int .i64 0))),
 oP 65 (.pick (.t 62) (.t 64) (.c (.bool false))),
 oP 66 (.move (.t 65)),
 oG 67 66 true (.move (.t 12)),
 oG 68 66 true (.bin .eql (.t 67) (.c (.int .i64 0))),
 oP 69 (.pick (.t 66) (.t 68) (.c (.bool false))),
 oP 70 (.move (.t 69)),
 oG 71 70 true (.move (.t 14)),
 oG 72 70 true (.bin .eql (.t 71) (.c (.int .i64 0))),
 oP 73 (.pick (.t 70) (.t 72) (.c (.bool false))),
 oP 74 (.move (.t 73)),
 oG 75 74 true (.move (.t 3)),
 ⟨(some 76), .litS 1 3 [.int .i64 0] [(0, (.c (.int .i64 5))), (1, (.c (.int .i64 3))), (2, (.c (.int .i64 6)))], (some (74, true)), none, []⟩,
 ⟨(some 77), .call 1 26 [(.t 75), (.t 76)], (some (74, true)), none, []⟩,
 oP 78 (.pick (.t 74) (.t 77) (.c (.bool false))),
 oP 79 (.move (.t 78)),
 ⟨(some 80), .load true 2 (.t 5), (some (79, true)), none, []⟩,
 oG 81 79 true (.build [.int .i64 0, .int .i64 0] [(0, 1, (.c (.int .i64 42))), (1, 1, (.c (.int .i64 58)))]),
 oG 82 79 true (.eqS false [true, true] (.t 80) (.t 81)),
 oP 83 (.pick (.t 79) (.t 82) (.c (.bool false))),
 oP 84 (.move (.t 83)),
 oG 85 84 true (.move (.t 7)),
 oG 86 84 true (.bin .eql (.t 85) (.c (.int .i64 40))),
 oP 87 (.pick (.t 84) (.t 86) (.c (.bool false))),
 oP 88 (.move (.t 87)),
 oG 89 88 true (.move (.t 9)),
 ⟨(some 90), .litS 1 3 [.int .i64 0] [(0, (.c (.int .i64 1))), (1, (.c (.int .i64 0))), (2, (.c (.int .i64 2)))], (some (88, true)), none, []⟩,
 ⟨(some 91), .call 1 26 [(.t 89), (.t 90)], (some (88, true)), none, []⟩,
 oP 92 (.pick (.t 88) (.t 91) (.c (.bool false))),
 oP 93 (.move (.t 92)),
 oG 94 93 true (.move (.t 11)),
 oG 95 93 true (.bin .eql (.t 94) (.c (.int .i64 18))),
 oP 96 (.pick (.t 93) (.t 95) (.c (.bool false))),
 oP 97 (.move (.t 96)),
 oG 98 97 true (.move (.t 13)),
 oG 99 97 true (.bin .eql (.t 98) (.c (.int .i64 3))),
 oP 100 (.pick (.t 97) (.t 99) (.c (.bool false))),
 oP 0 (.move (.t 100))])
 (.ret)))))))))⟩
/-- almadraba/almadrabaref04.Copy -/
def f16 : AFn := ⟨14, [.cell true 3 2],
 .seq (.region 0 [oQ 1 (.box (.t 0)),
 oQ 2 (.alloc [.int .i64 0, .nils, .nils])])
 (.seq (.region 4 [oP 3 (.fieldAddr 0 (.t 1)),
 ⟨(some 4), .load false 1 (.t 3), none, none, [0, 1, 2, 3]⟩,
 ⟨(some 5), .buildSlice 4 0 [.int .i64 0, .int .i64 0, .int .i64 0, .int .i64 0] [], none, (some 0), []⟩,
 oP 6 (.fieldAddr 1 (.t 1)),
 ⟨(some 7), .load false 1 (.t 6), none, none, [0, 1, 2, 3]⟩,
 ⟨(some 8), .append true 4 32 (.t 5) (.t 7), none, (some 1), [2, 3]⟩,
 ⟨(some 9), .buildSlice 2 0 [.int .i64 0, .int .i64 0] [], none, (some 2), []⟩,
 oP 10 (.fieldAddr 2 (.t 1)),
 ⟨(some 11), .load false 1 (.t 10), none, none, [0, 1, 2, 3]⟩,
 ⟨(some 12), .append true 2 16 (.t 9) (.t 11), none, (some 3), []⟩,
 oP 13 (.build [.int .i64 0, .nils, .nils] [(0, 1, (.t 4)), (1, 1, (.t 8)), (2, 1, (.t 12))]),
 ⟨none, .store 3 (.t 2) (.t 13), none, none, []⟩])
 (.ret))⟩
/-- almadraba/almadrabalaw04.copied -/
def f17 : AFn := ⟨6, [.tmp 2],
 .seq (.region 0 [oP 2 (.move (.c (.nils)))])
 (.seq (.region 0 [oQ 3 (.buildSlice 1 0 [.int .i64 0] []),
 oP 4 (.move (.t 0)),
 oQ 5 (.append false 1 8 (.t 3) (.t 4)),
 oP 2 (.move (.t 5))])
 (.ret))⟩
/-- almadraba/mesh.Check -/
def f18 : AFn := ⟨6, [.tmp 2],
 .seq (.region 0 [oQ 1 (.box (.t 0)),
 oP 2 (.move (.c (.int .i64 0)))])
 (.seq (.seq (.region 0 [oQ 3 (.load true 3 (.t 1)),
 oQ 4 (.call 1 59 [(.t 3)]),
 oP 5 (.un .not (.t 4))])
 (.cond (.t 5) (.seq (.region 0 [oP 2 (.move (.c (.int .i64 40)))])
 (.ret))
 (.skip)))
 (.seq (.region 0 [oP 2 (.move (.c (.int .i64 0)))])
 (.ret)))⟩
/-- almadraba/almadrabaref04.Check -/
def f19 : AFn := ⟨92, [.tmp 2],
 .seq (.region 0 [oQ 1 (.box (.t 0)),
 oP 2 (.move (.c (.int .i64 0)))])
 (.seq (.seq (.region 0 [oP 6 (.fieldAddr 0 (.t 1)),
 oQ 7 (.load false 1 (.t 6)),
 oQ 8 (.call 1 60 [(.t 7), (.c (.int .i64 1)), (.c (.int .i64 3))]),
 oP 9 (.un .not (.t 8)),
 oP 10 (.move (.t 9)),
 oG 11 10 false (.fieldAddr 1 (.t 1)),
 ⟨(some 12), .load false 1 (.t 11), (some (10, false)), none, []⟩,
 oG 13 10 false (.lenS (.t 12)),
 oG 14 10 false (.bin .gtr (.t 13) (.c (.int .i64 6))),
 oP 15 (.pick (.t 10) (.c (.bool true)) (.t 14)),
 oP 16 (.move (.t 15)),
 oG 17 16 false (.fieldAddr 2 (.t 1)),
 ⟨(some 18), .load false 1 (.t 17), (some (16, false)), none, []⟩,
 oG 19 16 false (.lenS (.t 18)),
 oG 20 16 false (.bin .gtr (.t 19) (.c (.int .i64 8))),
 oP 21 (.pick (.t 16) (.c (.bool true)) (.t 20))])
 (.cond (.t 21) (.seq (.region 0 [oP 2 (.move (.c (.int .i64 40)))])
 (.ret))
 (.skip)))
 (.seq (.seq (.region 0 [oP 3 (.move (.c (.int .i64 0)))])
 (.block 0 (.loop (.seq (.seq (.region 0 [oP 22 (.move (.t 3)),
 oP 23 (.fieldAddr 1 (.t 1)),
 oQ 24 (.load false 1 (.t 23)),
 oP 25 (.lenS (.t 24)),
 oP 26 (.bin .lss (.t 22) (.t 25))])
 (.cond (.t 26) (.skip)
 (.exit 0)))
 (.seq (.block 1 (.seq (.region 0 [oP 29 (.fieldAddr 1 (.t 1)),
 oQ 30 (.load false 1 (.t 29)),
 oP 31 (.move (.t 3)),
 oP 32 (.idxSl 4 (.t 30) (.t 31)),
 oQ 33 (.load true 4 (.t 32)),
 oQ 4 (.alloc [.int .i64 0, .int .i64 0, .int .i64 0, .int .i64 0]),
 ⟨none, .store 4 (.t 4) (.t 33), none, none, []⟩])
 (.seq (.region 0 [oP 34 (.fieldAddr 0 (.t 4)),
 oQ 35 (.load false 1 (.t 34)),
 oQ 36 (.call 1 60 [(.t 35), (.c (.int .i64 0)), (.c (.int .i64 20))]),
 oP 37 (.un .not (.t 36)),
 oP 38 (.move (.t 37)),
 oG 39 38 false (.fieldAddr 1 (.t 4)),
 oG 40 38 false (.fieldAddr 1 (.t 39)),
 ⟨(some 41), .load false 1 (.t 40), (some (38, false)), none, []⟩,
 ⟨(some 42), .call 1 60 [(.t 41), (.c (.int .i64 0)), (.c (.int .i64 20))], (some (38, false)), none, []⟩,
 oG 43 38 false (.un .not (.t 42)),
 oP 44 (.pick (.t 38) (.c (.bool true)) (.t 43)),
 oP 45 (.move (.t 44)),
 oG 46 45 false (.fieldAddr 1 (.t 4)),
 oG 47 45 false (.fieldAddr 0 (.t 46)),
 ⟨(some 48), .load false 1 (.t 47), (some (45, false)), none, []⟩,
 oG 49 45 false (.fieldAddr 1 (.t 4)),
 oG 50 45 false (.fieldAddr 1 (.t 49)),
 ⟨(some 51), .load false 1 (.t 50), (some (45, false)), none, []⟩,
 ⟨(some 52), .call 1 60 [(.t 48), (.c (.int .i64 0)), (.t 51)], (some (45, false)), none, []⟩,
 oG 53 45 false (.un .not (.t 52)),
 oP 54 (.pick (.t 45) (.c (.bool true)) (.t 53)),
 oP 55 (.move (.t 54)),
 oG 56 55 false (.fieldAddr 3 (.t 4)),
 ⟨(some 57), .load false 1 (.t 56), (some (55, false)), none, []⟩,
 ⟨(some 58), .call 1 60 [(.t 57), (.c (.int .i64 1)), (.c (.int .i64 9))], (some (55, false)), none, []⟩,
 oG 59 55 false (.un .not (.t 58)),
 oP 60 (.pick (.t 55) (.c (.bool true)) (.t 59))])
 (.cond (.t 60) (.seq (.region 0 [oP 2 (.move (.c (.int .i64 40)))])
 (.ret))
 (.skip)))))
 (.region 0 [oP 27 (.move (.t 3)),
 oP 28 (.bin .add (.t 27) (.c (.int .i64 1))),
 oP 3 (.move (.t 28))]))))))
 (.seq (.seq (.region 0 [oP 5 (.move (.c (.int .i64 0)))])
 (.block 2 (.loop (.seq (.seq (.region 0 [oP 61 (.move (.t 5)),
 oP 62 (.fieldAddr 2 (.t 1)),
 oQ 63 (.load false 1 (.t 62)),
 oP 64 (.lenS (.t 63)),
 oP 65 (.bin .lss (.t 61) (.t 64))])
 (.cond (.t 65) (.skip)
 (.exit 2)))
 (.seq (.block 3 (.seq (.region 0 [oQ 68 (.load true 3 (.t 1)),
 oP 69 (.fieldAddr 2 (.t 1)),
 oQ 70 (.load false 1 (.t 69)),
 oP 71 (.move (.t 5)),
 oP 72 (.idxSl 2 (.t 70) (.t 71)),
 oP 73 (.fieldAddr 0 (.t 72)),
 oQ 74 (.load false 1 (.t 73)),
 oQ 75 (.call 1 55 [(.t 68), (.t 74)]),
 oP 76 (.un .not (.t 75)),
 oP 77 (.move (.t 76)),
 ⟨(some 78), .load true 3 (.t 1), (some (77, false)), none, []⟩,
 oG 79 77 false (.fieldAddr 2 (.t 1)),
 ⟨(some 80), .load false 1 (.t 79), (some (77, false)), none, []⟩,
 oG 81 77 false (.move (.t 5)),
 oG 82 77 false (.idxSl 2 (.t 80) (.t 81)),
 oG 83 77 false (.fieldAddr 1 (.t 82)),
 ⟨(some 84), .load false 1 (.t 83), (some (77, false)), none, []⟩,
 ⟨(some 85), .call 1 55 [(.t 78), (.t 84)], (some (77, false)), none, []⟩,
 oG 86 77 false (.un .not (.t 85)),
 oP 87 (.pick (.t 77) (.c (.bool true)) (.t 86))])
 (.cond (.t 87) (.seq (.region 0 [oP 2 (.move (.c (.int .i64 40)))])
 (.ret))
 (.skip))))
 (.region 0 [oP 66 (.move (.t 5)),
 oP 67 (.bin .add (.t 66) (.c (.int .i64 1))),
 oP 5 (.move (.t 67))]))))))
 (.seq (.seq (.region 0 [oQ 88 (.load true 3 (.t 1)),
 oQ 89 (.call 1 61 [(.t 88), (.c (.nils))]),
 oP 90 (.lenS (.t 89)),
 oP 91 (.bin .eql (.t 90) (.c (.int .i64 0)))])
 (.cond (.t 91) (.seq (.region 0 [oP 2 (.move (.c (.int .i64 40)))])
 (.ret))
 (.skip)))
 (.seq (.region 0 [oP 2 (.move (.c (.int .i64 0)))])
 (.ret))))))⟩
/-- almadraba/mesh.Good -/
def f20 : AFn := ⟨16, [.tmp 4, .tmp 5],
 .seq (.region 0 [oQ 2 (.box (.t 0)),
 oP 4 (.move (.c (.bool false))),
 oP 5 (.move (.c (.int .i64 0)))])
 (.seq (.seq (.region 0 [oQ 7 (.load true 3 (.t 2)),
 oQ 8 (.call 1 18 [(.t 7)]),
 oP 6 (.move (.t 8))])
 (.seq (.region 0 [oP 9 (.move (.t 6)),
 oP 10 (.bin .neq (.t 9) (.c (.int .i64 0)))])
 (.cond (.t 10) (.seq (.region 0 [oP 11 (.move (.t 6)),
 oP 4 (.move (.c (.bool false))),
 oP 5 (.move (.t 11))])
 (.ret))
 (.skip))))
 (.seq (.region 0 [oQ 12 (.load true 3 (.t 2)),
 oP 13 (.build [.int .i64 0, .nils, .nils] [(0, 3, (.t 12))]),
 oP 14 (.move (.t 1)),
 oQ 15 (.call 1 62 [(.t 13), (.t 14)]),
 oP 4 (.move (.t 15)),
 oP 5 (.move (.c (.int .i64 0)))])
 (.ret)))⟩
/-- almadraba/almadrabaref04.Good -/
def f21 : AFn := ⟨15, [.tmp 4, .tmp 5],
 .seq (.region 0 [oQ 2 (.box (.t 0)),
 oP 4 (.move (.c (.bool false))),
 oP 5 (.move (.c (.int .i64 0)))])
 (.seq (.seq (.region 0 [oQ 7 (.load true 3 (.t 2)),
 oQ 8 (.call 1 19 [(.t 7)]),
 oP 6 (.move (.t 8))])
 (.seq (.region 0 [oP 9 (.move (.t 6)),
 oP 10 (.bin .neq (.t 9) (.c (.int .i64 0)))])
 (.cond (.t 10) (.seq (.region 0 [oP 11 (.move (.t 6)),
 oP 4 (.move (.c (.bool false))),
 oP 5 (.move (.t 11))])
 (.ret))
 (.skip))))
 (.seq (.region 0 [oQ 12 (.load true 3 (.t 2)),
 oP 13 (.move (.t 1)),
 oQ 14 (.call 1 50 [(.t 12), (.t 13)]),
 oP 4 (.move (.t 14)),
 oP 5 (.move (.c (.int .i64 0)))])
 (.ret)))⟩
/-- almadraba/mesh.Times -/
def f22 : AFn := ⟨25, [.tmp 4, .tmp 5],
 .seq (.region 0 [oQ 2 (.box (.t 0)),
 oP 4 (.move (.c (.nils))),
 oP 5 (.move (.c (.int .i64 0)))])
 (.seq (.seq (.region 0 [oQ 8 (.load true 3 (.t 2)),
 oP 9 (.move (.t 1)),
 oQ 10 (.call 1 63 [(.t 8), (.t 9)]),
 oP 6 (.move (.t 10))])
 (.seq (.region 0 [oP 11 (.move (.t 6)),
 oP 12 (.bin .neq (.t 11) (.c (.int .i64 0)))])
 (.cond (.t 12) (.seq (.region 0 [oP 13 (.move (.t 6)),
 oP 4 (.move (.c (.nils))),
 oP 5 (.move (.t 13))])
 (.ret))
 (.skip))))
 (.seq (.region 0 [oQ 14 (.load true 3 (.t 2)),
 oP 15 (.build [.int .i64 0, .nils, .nils] [(0, 3, (.t 14))]),
 oP 16 (.move (.t 1)),
 oQ 17 (.call 1 64 [(.t 15), (.t 16)]),
 oQ 7 (.alloc [.int .i64 0, .int .i64 0, .int .i64 0, .int .i64 0, .int .i64 0, .int .i64 0]),
 ⟨none, .store 6 (.t 7) (.t 17), none, none, []⟩])
 (.seq (.region 0 [oP 18 (.fieldAddr 1 (.t 2)),
 oQ 19 (.load false 1 (.t 18)),
 oP 20 (.lenS (.t 19)),
 oP 21 (.fieldAddr 1 (.t 2)),
 oQ 22 (.load false 1 (.t 21)),
 oP 23 (.lenS (.t 22)),
 oQ 24 (.sliceA 6 1 (.t 7) (some ((.t 20), (some (.t 23))))),
 oP 4 (.move (.t 24)),
 oP 5 (.move (.c (.int .i64 0)))])
 (.ret))))⟩
/-- almadraba/almadrabaref04.Times -/
def f23 : AFn := ⟨16, [.tmp 4, .tmp 5],
 .seq (.region 0 [oQ 2 (.box (.t 0)),
 oP 4 (.move (.c (.nils))),
 oP 5 (.move (.c (.int .i64 0)))])
 (.seq (.seq (.region 0 [oQ 7 (.load true 3 (.t 2)),
 oP 8 (.move (.t 1)),
 oQ 9 (.call 1 65 [(.t 7), (.t 8)]),
 oP 6 (.move (.t 9))])
 (.seq (.region 0 [oP 10 (.move (.t 6)),
 oP 11 (.bin .neq (.t 10) (.c (.int .i64 0)))])
 (.cond (.t 11) (.seq (.region 0 [oP 12 (.move (.t 6)),
 oP 4 (.move (.c (.nils))),
 oP 5 (.move (.t 12))])
 (.ret))
 (.skip))))
 (.seq (.region 0 [oQ 13 (.load true 3 (.t 2)),
 oP 14 (.move (.t 1)),
 oQ 15 (.call 1 66 [(.t 13), (.t 14)]),
 oP 4 (.move (.t 15)),
 oP 5 (.move (.c (.int .i64 0)))])
 (.ret)))⟩
/-- almadraba/mesh.Lost -/
def f24 : AFn := ⟨18, [.cell true 2 4, .tmp 5],
 .seq (.region 0 [oQ 2 (.box (.t 0)),
 oQ 4 (.alloc [.int .i64 0, .int .i64 0]),
 oP 5 (.move (.c (.int .i64 0)))])
 (.seq (.seq (.region 0 [oQ 7 (.load true 3 (.t 2)),
 oP 8 (.move (.t 1)),
 oQ 9 (.call 1 63 [(.t 7), (.t 8)]),
 oP 6 (.move (.t 9))])
 (.seq (.region 0 [oP 10 (.move (.t 6)),
 oP 11 (.bin .neq (.t 10) (.c (.int .i64 0)))])
 (.cond (.t 11) (.seq (.region 0 [oP 12 (.build [.int .i64 0, .int .i64 0] []),
 oP 13 (.move (.t 6)),
 ⟨none, .store 2 (.t 4) (.t 12), none, none, []⟩,
 oP 5 (.move (.t 13))])
 (.ret))
 (.skip))))
 (.seq (.region 0 [oQ 14 (.load true 3 (.t 2)),
 oP 15 (.build [.int .i64 0, .nils, .nils] [(0, 3, (.t 14))]),
 oP 16 (.move (.t 1)),
 oQ 17 (.call 1 67 [(.t 15), (.t 16)]),
 ⟨none, .store 2 (.t 4) (.t 17), none, none, []⟩,
 oP 5 (.move (.c (.int .i64 0)))])
 (.ret)))⟩
/-- almadraba/almadrabaref04.Lost -/
def f25 : AFn := ⟨25, [.cell true 2 4, .tmp 5],
 .seq (.region 0 [oQ 2 (.box (.t 0)),
 oQ 4 (.alloc [.int .i64 0, .int .i64 0]),
 oP 5 (.move (.c (.int .i64 0)))])
 (.seq (.seq (.region 0 [oQ 7 (.load true 3 (.t 2)),
 oP 8 (.move (.t 1)),
 oQ 9 (.call 1 65 [(.t 7), (.t 8)]),
 oP 6 (.move (.t 9))])
 (.seq (.region 0 [oP 10 (.move (.t 6)),
 oP 11 (.bin .neq (.t 10) (.c (.int .i64 0)))])
 (.cond (.t 11) (.seq (.region 0 [oP 12 (.build [.int .i64 0, .int .i64 0] []),
 oP 13 (.move (.t 6)),
 ⟨none, .store 2 (.t 4) (.t 12), none, none, []⟩,
 oP 5 (.move (.t 13))])
 (.ret))
 (.skip))))
 (.seq (.region 0 [oQ 14 (.load true 3 (.t 2)),
 oP 15 (.move (.t 1)),
 oQ 16 (.load true 3 (.t 2)),
 oQ 17 (.call 1 68 [(.t 16)]),
 oQ 18 (.call 1 57 [(.t 14), (.t 15), (.t 17)]),
 oQ 19 (.load true 3 (.t 2)),
 oP 20 (.move (.t 1)),
 oQ 21 (.load true 3 (.t 2)),
 oQ 22 (.call 1 69 [(.t 21)]),
 oQ 23 (.call 1 57 [(.t 19), (.t 20), (.t 22)]),
 oP 24 (.build [.int .i64 0, .int .i64 0] [(0, 1, (.t 18)), (1, 1, (.t 23))]),
 ⟨none, .store 2 (.t 4) (.t 24), none, none, []⟩,
 oP 5 (.move (.c (.int .i64 0)))])
 (.ret)))⟩
/-- almadraba/almadrabaref01.SameInts -/
def f26 : AFn := ⟨26, [.tmp 4],
 .seq (.region 0 [oP 4 (.move (.c (.bool false)))])
 (.seq (.seq (.region 0 [oP 6 (.move (.t 0)),
 oP 7 (.lenS (.t 6)),
 oP 8 (.move (.t 1)),
 oP 9 (.lenS (.t 8)),
 oP 10 (.bin .neq (.t 7) (.t 9))])
 (.cond (.t 10) (.seq (.region 0 [oP 4 (.move (.c (.bool false)))])
 (.ret))
 (.skip)))
 (.seq (.seq (.region 0 [oP 5 (.move (.c (.int .i64 0)))])
 (.block 0 (.loop (.seq (.seq (.region 0 [oP 11 (.move (.t 5)),
 oP 12 (.move (.t 0)),
 oP 13 (.lenS (.t 12)),
 oP 14 (.bin .lss (.t 11) (.t 13))])
 (.cond (.t 14) (.skip)
 (.exit 0)))
 (.seq (.block 1 (.seq (.region 0 [oP 17 (.move (.t 0)),
 oP 18 (.move (.t 5)),
 oP 19 (.idxSl 1 (.t 17) (.t 18)),
 oQ 20 (.load false 1 (.t 19)),
 oP 21 (.move (.t 1)),
 oP 22 (.move (.t 5)),
 oP 23 (.idxSl 1 (.t 21) (.t 22)),
 oQ 24 (.load false 1 (.t 23)),
 oP 25 (.bin .neq (.t 20) (.t 24))])
 (.cond (.t 25) (.seq (.region 0 [oP 4 (.move (.c (.bool false)))])
 (.ret))
 (.skip))))
 (.region 0 [oP 15 (.move (.t 5)),
 oP 16 (.bin .add (.t 15) (.c (.int .i64 1))),
 oP 5 (.move (.t 16))]))))))
 (.seq (.region 0 [oP 4 (.move (.c (.bool true)))])
 (.ret))))⟩
/-- almadraba/almadrabalaw04.Same -/
def f27 : AFn := ⟨66, [.tmp 4],
 .seq (.region 0 [oQ 2 (.box (.t 0)),
 oQ 3 (.box (.t 1)),
 oP 4 (.move (.c (.bool false)))])
 (.seq (.seq (.region 0 [oP 7 (.fieldAddr 0 (.t 2)),
 oQ 8 (.load false 1 (.t 7)),
 oP 9 (.fieldAddr 0 (.t 3)),
 oQ 10 (.load false 1 (.t 9)),
 oP 11 (.bin .neq (.t 8) (.t 10)),
 oP 12 (.move (.t 11)),
 oG 13 12 false (.fieldAddr 1 (.t 2)),
 ⟨(some 14), .load false 1 (.t 13), (some (12, false)), none, []⟩,
 oG 15 12 false (.lenS (.t 14)),
 oG 16 12 false (.fieldAddr 1 (.t 3)),
 ⟨(some 17), .load false 1 (.t 16), (some (12, false)), none, []⟩,
 oG 18 12 false (.lenS (.t 17)),
 oG 19 12 false (.bin .neq (.t 15) (.t 18)),
 oP 20 (.pick (.t 12) (.c (.bool true)) (.t 19)),
 oP 21 (.move (.t 20)),
 oG 22 21 false (.fieldAddr 2 (.t 2)),
 ⟨(some 23), .load false 1 (.t 22), (some (21, false)), none, []⟩,
 oG 24 21 false (.lenS (.t 23)),
 oG 25 21 false (.fieldAddr 2 (.t 3)),
 ⟨(some 26), .load false 1 (.t 25), (some (21, false)), none, []⟩,
 oG 27 21 false (.lenS (.t 26)),
 oG 28 21 false (.bin .neq (.t 24) (.t 27)),
 oP 29 (.pick (.t 21) (.c (.bool true)) (.t 28))])
 (.cond (.t 29) (.seq (.region 0 [oP 4 (.move (.c (.bool false)))])
 (.ret))
 (.skip)))
 (.seq (.seq (.region 0 [oP 5 (.move (.c (.int .i64 0)))])
 (.block 0 (.loop (.seq (.seq (.region 0 [oP 30 (.move (.t 5)),
 oP 31 (.fieldAddr 1 (.t 2)),
 oQ 32 (.load false 1 (.t 31)),
 oP 33 (.lenS (.t 32)),
 oP 34 (.bin .lss (.t 30) (.t 33))])
 (.cond (.t 34) (.skip)
 (.exit 0)))
 (.seq (.block 1 (.seq (.region 0 [oP 37 (.fieldAddr 1 (.t 2)),
 oQ 38 (.load false 1 (.t 37)),
 oP 39 (.move (.t 5)),
 oP 40 (.idxSl 4 (.t 38) (.t 39)),
 oQ 41 (.load true 4 (.t 40)),
 oP 42 (.fieldAddr 1 (.t 3)),
 oQ 43 (.load false 1 (.t 42)),
 oP 44 (.move (.t 5)),
 oP 45 (.idxSl 4 (.t 43) (.t 44)),
 oQ 46 (.load true 4 (.t 45)),
 oP 47 (.eqS true [true, true, true, true] (.t 41) (.t 46))])
 (.cond (.t 47) (.seq (.region 0 [oP 4 (.move (.c (.bool false)))])
 (.ret))
 (.skip))))
 (.region 0 [oP 35 (.move (.t 5)),
 oP 36 (.bin .add (.t 35) (.c (.int .i64 1))),
 oP 5 (.move (.t 36))]))))))
 (.seq (.seq (.region 0 [oP 6 (.move (.c (.int .i64 0)))])
 (.block 2 (.loop (.seq (.seq (.region 0 [oP 48 (.move (.t 6)),
 oP 49 (.fieldAddr 2 (.t 2)),
 oQ 50 (.load false 1 (.t 49)),
 oP 51 (.lenS (.t 50)),
 oP 52 (.bin .lss (.t 48) (.t 51))])
 (.cond (.t 52) (.skip)
 (.exit 2)))
 (.seq (.block 3 (.seq (.region 0 [oP 55 (.fieldAddr 2 (.t 2)),
 oQ 56 (.load false 1 (.t 55)),
 oP 57 (.move (.t 6)),
 oP 58 (.idxSl 2 (.t 56) (.t 57)),
 oQ 59 (.load true 2 (.t 58)),
 oP 60 (.fieldAddr 2 (.t 3)),
 oQ 61 (.load false 1 (.t 60)),
 oP 62 (.move (.t 6)),
 oP 63 (.idxSl 2 (.t 61) (.t 62)),
 oQ 64 (.load true 2 (.t 63)),
 oP 65 (.eqS true [true, true] (.t 59) (.t 64))])
 (.cond (.t 65) (.seq (.region 0 [oP 4 (.move (.c (.bool false)))])
 (.ret))
 (.skip))))
 (.region 0 [oP 53 (.move (.t 6)),
 oP 54 (.bin .add (.t 53) (.c (.int .i64 1))),
 oP 6 (.move (.t 54))]))))))
 (.seq (.region 0 [oP 4 (.move (.c (.bool true)))])
 (.ret)))))⟩
/-- almadraba/almadrabalaw04.Far -/
def f28 : AFn := ⟨20, [.tmp 4],
 .seq (.region 0 [oQ 2 (.box (.t 0)),
 oP 4 (.move (.c (.bool false)))])
 (.seq (.region 0 [oQ 5 (.load true 3 (.t 2)),
 oQ 6 (.call 1 14 [(.t 5), (.c (.nils))]),
 oP 7 (.move (.t 6)),
 oG 8 7 false (.fieldAddr 1 (.t 2)),
 ⟨(some 9), .load false 1 (.t 8), (some (7, false)), none, []⟩,
 oG 10 7 false (.lenS (.t 9)),
 oG 11 7 false (.move (.t 1)),
 oG 12 7 false (.bin .gtr (.t 10) (.t 11)),
 oG 13 7 false (.move (.t 12)),
 oG 14 13 true (.fieldAddr 1 (.t 2)),
 ⟨(some 15), .load false 1 (.t 14), (some (13, true)), none, []⟩,
 oG 16 13 true (.lenS (.t 15)),
 oG 17 13 true (.bin .leq (.t 16) (.c (.int .i64 6))),
 oG 18 7 false (.pick (.t 13) (.t 17) (.c (.bool false))),
 oP 19 (.pick (.t 7) (.c (.bool true)) (.t 18)),
 oP 4 (.move (.t 19))])
 (.ret))⟩
/-- almadraba/mesh.Least -/
def f29 : AFn := ⟨18, [.tmp 2, .tmp 3],
 .seq (.region 0 [oQ 1 (.box (.t 0)),
 oP 2 (.move (.c (.int .i64 0))),
 oP 3 (.move (.c (.int .i64 0)))])
 (.seq (.seq (.region 0 [oQ 6 (.load true 3 (.t 1)),
 oQ 7 (.call 1 18 [(.t 6)]),
 oP 4 (.move (.t 7))])
 (.seq (.region 0 [oP 8 (.move (.t 4)),
 oP 9 (.bin .neq (.t 8) (.c (.int .i64 0)))])
 (.cond (.t 9) (.seq (.region 0 [oP 10 (.move (.t 4)),
 oP 2 (.move (.c (.int .i64 0))),
 oP 3 (.move (.t 10))])
 (.ret))
 (.skip))))
 (.seq (.region 0 [oQ 11 (.load true 3 (.t 1)),
 oP 12 (.build [.int .i64 0, .nils, .nils] [(0, 3, (.t 11))]),
 oQ 5 (.alloc [.int .i64 0, .nils, .nils]),
 ⟨none, .store 3 (.t 5) (.t 12), none, none, []⟩])
 (.seq (.region 0 [oQ 13 (.load true 3 (.t 5)),
 oQ 14 (.load true 3 (.t 5)),
 oP 15 (.mkFn 71 [(.t 14)] []),
 oQ 16 (.call 1 70 [(.t 13), (.t 15)]),
 oP 17 (.field false 0 1 (.t 16)),
 oP 2 (.move (.t 17)),
 oP 3 (.move (.c (.int .i64 0)))])
 (.ret))))⟩
/-- almadraba/almadrabaref04.Least -/
def f30 : AFn := ⟨12, [.tmp 2, .tmp 3],
 .seq (.region 0 [oQ 1 (.box (.t 0)),
 oP 2 (.move (.c (.int .i64 0))),
 oP 3 (.move (.c (.int .i64 0)))])
 (.seq (.seq (.region 0 [oQ 5 (.load true 3 (.t 1)),
 oQ 6 (.call 1 19 [(.t 5)]),
 oP 4 (.move (.t 6))])
 (.seq (.region 0 [oP 7 (.move (.t 4)),
 oP 8 (.bin .neq (.t 7) (.c (.int .i64 0)))])
 (.cond (.t 8) (.seq (.region 0 [oP 9 (.move (.t 4)),
 oP 2 (.move (.c (.int .i64 0))),
 oP 3 (.move (.t 9))])
 (.ret))
 (.skip))))
 (.seq (.region 0 [oQ 10 (.load true 3 (.t 1)),
 oQ 11 (.call 1 72 [(.t 10)]),
 oP 2 (.move (.t 11)),
 oP 3 (.move (.c (.int .i64 0)))])
 (.ret)))⟩
/-- almadraba/mesh.Order -/
def f31 : AFn := ⟨18, [.tmp 2, .tmp 3],
 .seq (.region 0 [oQ 1 (.box (.t 0)),
 oP 2 (.move (.c (.nils))),
 oP 3 (.move (.c (.int .i64 0)))])
 (.seq (.seq (.region 0 [oQ 6 (.load true 3 (.t 1)),
 oQ 7 (.call 1 18 [(.t 6)]),
 oP 4 (.move (.t 7))])
 (.seq (.region 0 [oP 8 (.move (.t 4)),
 oP 9 (.bin .neq (.t 8) (.c (.int .i64 0)))])
 (.cond (.t 9) (.seq (.region 0 [oP 10 (.move (.t 4)),
 oP 2 (.move (.c (.nils))),
 oP 3 (.move (.t 10))])
 (.ret))
 (.skip))))
 (.seq (.region 0 [oQ 11 (.load true 3 (.t 1)),
 oP 12 (.build [.int .i64 0, .nils, .nils] [(0, 3, (.t 11))]),
 oQ 5 (.alloc [.int .i64 0, .nils, .nils]),
 ⟨none, .store 3 (.t 5) (.t 12), none, none, []⟩])
 (.seq (.region 0 [oQ 13 (.load true 3 (.t 5)),
 oQ 14 (.load true 3 (.t 5)),
 oP 15 (.mkFn 71 [(.t 14)] []),
 oQ 16 (.call 1 70 [(.t 13), (.t 15)]),
 oP 17 (.field false 1 1 (.t 16)),
 oP 2 (.move (.t 17)),
 oP 3 (.move (.c (.int .i64 0)))])
 (.ret))))⟩
/-- almadraba/almadrabaref04.Order -/
def f32 : AFn := ⟨14, [.tmp 2, .tmp 3],
 .seq (.region 0 [oQ 1 (.box (.t 0)),
 oP 2 (.move (.c (.nils))),
 oP 3 (.move (.c (.int .i64 0)))])
 (.seq (.seq (.region 0 [oQ 5 (.load true 3 (.t 1)),
 oQ 6 (.call 1 19 [(.t 5)]),
 oP 4 (.move (.t 6))])
 (.seq (.region 0 [oP 7 (.move (.t 4)),
 oP 8 (.bin .neq (.t 7) (.c (.int .i64 0)))])
 (.cond (.t 8) (.seq (.region 0 [oP 9 (.move (.t 4)),
 oP 2 (.move (.c (.nils))),
 oP 3 (.move (.t 9))])
 (.ret))
 (.skip))))
 (.seq (.region 0 [oQ 10 (.load true 3 (.t 1)),
 oQ 11 (.call 1 73 [(.t 10)]),
 oP 12 (.idxSl 1 (.t 11) (.c (.int .i64 0))),
 oQ 13 (.load false 1 (.t 12)),
 oP 2 (.move (.t 13)),
 oP 3 (.move (.c (.int .i64 0)))])
 (.ret)))⟩
/-- almadraba/mesh.First -/
def f33 : AFn := ⟨20, [.tmp 4, .tmp 5],
 .seq (.region 0 [oQ 2 (.box (.t 0)),
 oP 4 (.move (.c (.int .i64 0))),
 oP 5 (.move (.c (.int .i64 0)))])
 (.seq (.seq (.region 0 [oQ 7 (.load true 3 (.t 2)),
 oQ 8 (.call 1 18 [(.t 7)]),
 oP 6 (.move (.t 8))])
 (.seq (.region 0 [oP 9 (.move (.t 6)),
 oP 10 (.bin .neq (.t 9) (.c (.int .i64 0)))])
 (.cond (.t 10) (.seq (.region 0 [oP 11 (.move (.t 6)),
 oP 4 (.move (.c (.int .i64 0))),
 oP 5 (.move (.t 11))])
 (.ret))
 (.skip))))
 (.seq (.seq (.region 0 [oQ 12 (.load true 3 (.t 2)),
 oP 13 (.move (.t 1)),
 oQ 14 (.call 1 74 [(.t 12), (.t 13)]),
 oP 15 (.un .not (.t 14))])
 (.cond (.t 15) (.seq (.region 0 [oP 4 (.move (.c (.int .i64 0))),
 oP 5 (.move (.c (.int .i64 1)))])
 (.ret))
 (.skip)))
 (.seq (.region 0 [oQ 16 (.load true 3 (.t 2)),
 oP 17 (.build [.int .i64 0, .nils, .nils] [(0, 3, (.t 16))]),
 oP 18 (.move (.t 1)),
 oQ 19 (.call 1 75 [(.t 17), (.t 18)]),
 oP 4 (.move (.t 19)),
 oP 5 (.move (.c (.int .i64 0)))])
 (.ret))))⟩
/-- almadraba/almadrabaref04.First -/
def f34 : AFn := ⟨41, [.tmp 4, .tmp 5],
 .seq (.region 0 [oQ 2 (.box (.t 0)),
 oP 4 (.move (.c (.int .i64 0))),
 oP 5 (.move (.c (.int .i64 0)))])
 (.seq (.seq (.region 0 [oQ 10 (.load true 3 (.t 2)),
 oQ 11 (.call 1 19 [(.t 10)]),
 oP 6 (.move (.t 11))])
 (.seq (.region 0 [oP 12 (.move (.t 6)),
 oP 13 (.bin .neq (.t 12) (.c (.int .i64 0)))])
 (.cond (.t 13) (.seq (.region 0 [oP 14 (.move (.t 6)),
 oP 4 (.move (.c (.int .i64 0))),
 oP 5 (.move (.t 14))])
 (.ret))
 (.skip))))
 (.seq (.seq (.region 0 [oQ 15 (.load true 3 (.t 2)),
 oP 16 (.move (.t 1)),
 oQ 17 (.call 1 55 [(.t 15), (.t 16)]),
 oP 18 (.un .not (.t 17))])
 (.cond (.t 18) (.seq (.region 0 [oP 4 (.move (.c (.int .i64 0))),
 oP 5 (.move (.c (.int .i64 1)))])
 (.ret))
 (.skip)))
 (.seq (.region 0 [oQ 19 (.load true 3 (.t 2)),
 oQ 20 (.call 1 73 [(.t 19)]),
 oP 7 (.move (.t 20))])
 (.seq (.region 0 [oP 8 (.move (.c (.int .i64 0)))])
 (.seq (.seq (.region 0 [oP 9 (.move (.c (.int .i64 0)))])
 (.block 0 (.loop (.seq (.seq (.region 0 [oP 21 (.move (.t 9)),
 oP 22 (.move (.t 7)),
 oP 23 (.lenS (.t 22)),
 oP 24 (.bin .lss (.t 21) (.t 23))])
 (.cond (.t 24) (.skip)
 (.exit 0)))
 (.seq (.block 1 (.seq (.region 0 [oP 27 (.move (.t 7)),
 oP 28 (.move (.t 9)),
 oP 29 (.idxSl 1 (.t 27) (.t 28)),
 oQ 30 (.load false 1 (.t 29)),
 oP 31 (.idxSl 1 (.t 30) (.c (.int .i64 0))),
 oQ 32 (.load false 1 (.t 31)),
 oP 33 (.move (.t 1)),
 oP 34 (.bin .eql (.t 32) (.t 33))])
 (.cond (.t 34) (.region 0 [oP 35 (.move (.t 8)),
 oP 36 (.bin .add (.t 35) (.c (.int .i64 1))),
 oP 8 (.move (.t 36))])
 (.skip))))
 (.region 0 [oP 25 (.move (.t 9)),
 oP 26 (.bin .add (.t 25) (.c (.int .i64 1))),
 oP 9 (.move (.t 26))]))))))
 (.seq (.region 0 [oP 37 (.move (.t 8)),
 oP 38 (.move (.t 7)),
 oP 39 (.lenS (.t 38)),
 oQ 40 (.call 1 76 [(.t 37), (.t 39)]),
 oP 4 (.move (.t 40)),
 oP 5 (.move (.c (.int .i64 0)))])
 (.ret)))))))⟩
/-- almadraba/mesh.Done -/
def f35 : AFn := ⟨18, [.tmp 2, .tmp 3],
 .seq (.region 0 [oQ 1 (.box (.t 0)),
 oP 2 (.move (.c (.int .i64 0))),
 oP 3 (.move (.c (.int .i64 0)))])
 (.seq (.seq (.region 0 [oQ 6 (.load true 3 (.t 1)),
 oQ 7 (.call 1 18 [(.t 6)]),
 oP 4 (.move (.t 7))])
 (.seq (.region 0 [oP 8 (.move (.t 4)),
 oP 9 (.bin .neq (.t 8) (.c (.int .i64 0)))])
 (.cond (.t 9) (.seq (.region 0 [oP 10 (.move (.t 4)),
 oP 2 (.move (.c (.int .i64 0))),
 oP 3 (.move (.t 10))])
 (.ret))
 (.skip))))
 (.seq (.region 0 [oQ 11 (.load true 3 (.t 1)),
 oP 12 (.build [.int .i64 0, .nils, .nils] [(0, 3, (.t 11))]),
 oQ 5 (.alloc [.int .i64 0, .nils, .nils]),
 ⟨none, .store 3 (.t 5) (.t 12), none, none, []⟩])
 (.seq (.region 0 [oQ 13 (.load true 3 (.t 5)),
 oQ 14 (.load true 3 (.t 5)),
 oP 15 (.mkFn 77 [(.t 14)] []),
 oQ 16 (.call 1 70 [(.t 13), (.t 15)]),
 oP 17 (.field false 0 1 (.t 16)),
 oP 2 (.move (.t 17)),
 oP 3 (.move (.c (.int .i64 0)))])
 (.ret))))⟩
/-- almadraba/almadrabaref04.Done -/
def f36 : AFn := ⟨35, [.tmp 2, .tmp 3],
 .seq (.region 0 [oQ 1 (.box (.t 0)),
 oP 2 (.move (.c (.int .i64 0))),
 oP 3 (.move (.c (.int .i64 0)))])
 (.seq (.seq (.region 0 [oQ 8 (.load true 3 (.t 1)),
 oQ 9 (.call 1 19 [(.t 8)]),
 oP 4 (.move (.t 9))])
 (.seq (.region 0 [oP 10 (.move (.t 4)),
 oP 11 (.bin .neq (.t 10) (.c (.int .i64 0)))])
 (.cond (.t 11) (.seq (.region 0 [oP 12 (.move (.t 4)),
 oP 2 (.move (.c (.int .i64 0))),
 oP 3 (.move (.t 12))])
 (.ret))
 (.skip))))
 (.seq (.region 0 [oQ 13 (.load true 3 (.t 1)),
 oQ 14 (.call 1 61 [(.t 13), (.c (.nils))]),
 oP 5 (.move (.t 14))])
 (.seq (.region 0 [oQ 15 (.load true 3 (.t 1)),
 oP 16 (.move (.t 5)),
 oP 17 (.idxSl 1 (.t 16) (.c (.int .i64 0))),
 oQ 18 (.load false 1 (.t 17)),
 oQ 19 (.call 1 53 [(.t 15), (.t 18)]),
 oP 6 (.move (.t 19))])
 (.seq (.seq (.region 0 [oP 7 (.move (.c (.int .i64 0)))])
 (.block 0 (.loop (.seq (.seq (.region 0 [oP 20 (.move (.t 7)),
 oP 21 (.move (.t 5)),
 oP 22 (.lenS (.t 21)),
 oP 23 (.bin .lss (.t 20) (.t 22))])
 (.cond (.t 23) (.skip)
 (.exit 0)))
 (.seq (.block 1 (.region 0 [oP 26 (.move (.t 6)),
 oQ 27 (.load true 3 (.t 1)),
 oP 28 (.move (.t 5)),
 oP 29 (.move (.t 7)),
 oP 30 (.idxSl 1 (.t 28) (.t 29)),
 oQ 31 (.load false 1 (.t 30)),
 oQ 32 (.call 1 53 [(.t 27), (.t 31)]),
 oP 33 (.minmax false (.t 26) [(.t 32)]),
 oP 6 (.move (.t 33))]))
 (.region 0 [oP 24 (.move (.t 7)),
 oP 25 (.bin .add (.t 24) (.c (.int .i64 1))),
 oP 7 (.move (.t 25))]))))))
 (.seq (.region 0 [oP 34 (.move (.t 6)),
 oP 2 (.move (.t 34)),
 oP 3 (.move (.c (.int .i64 0)))])
 (.ret))))))⟩
end Go.Proofs.Ytekoplcnlhanbaa.T
