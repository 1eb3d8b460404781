/-
The code of functions of the seat, as the abstract machine has it (printed by a tool of ours off the dump).
-/
import Derived.Test.YtaeijjfgfenfhaaAmX
namespace Go.Proofs.Ytaeijjfgfenfhaa.T
open Go Go.Am
abbrev oP (n : Nat) (p : POp) : AOper := ⟨some n, .p p, none, none, []⟩
abbrev oQ (n : Nat) (p : AOp) : AOper := ⟨some n, p, none, none, []⟩
abbrev oG (n m : Nat) (b : Bool) (p : POp) : AOper := ⟨some n, .p p, some (m, b), none, []⟩
/-- gosem.cut.init -/
def f2 : AFn := ⟨1, [],
 .region 0 [oQ 0 (.call 1 1 [])]⟩
/-- almadraba/almadrabalaw10.SharesGets -/
def f3 : AFn := ⟨113, [.tmp 6],
 .seq (.region 0 [oQ 3 (.box (.t 0)),
 oP 6 (.move (.c (.bool false)))])
 (.seq (.seq (.region 0 [oQ 22 (.load true 1 (.t 3)),
 oQ 23 (.call 1 16 [(.t 22)])])
 (.cond (.t 23) (.seq (.region 0 [oQ 24 (.call 1 17 []),
 oP 6 (.move (.t 24))])
 (.ret))
 (.skip)))
 (.seq (.region 0 [oQ 25 (.load true 1 (.t 3)),
 oQ 26 (.call 1 18 [(.t 25)]),
 oQ 7 (.alloc [.nils]),
 ⟨none, .store 1 (.t 7) (.t 26), none, none, []⟩])
 (.seq (.seq (.region 0 [oQ 27 (.load true 1 (.t 7)),
 oQ 28 (.call 1 19 [(.t 27)]),
 oQ 29 (.load true 1 (.t 3)),
 oQ 30 (.call 1 20 [(.t 29)]),
 oP 31 (.bin .neq (.t 28) (.t 30))])
 (.cond (.t 31) (.seq (.region 0 [oP 6 (.move (.c (.bool false)))])
 (.ret))
 (.skip)))
 (.seq (.region 0 [oQ 33 (.load true 1 (.t 7)),
 oP 34 (.move (.t 2)),
 oQ 35 (.call 1 21 [(.t 33), (.t 34)]),
 oP 32 (.move (.t 35)),
 oP 36 (.extract (.t 32) 0),
 oP 37 (.extract (.t 32) 1),
 oP 8 (.move (.t 36)),
 oP 9 (.move (.t 37))])
 (.seq (.region 0 [oQ 39 (.load true 1 (.t 3)),
 oP 40 (.move (.t 2)),
 oQ 41 (.call 1 22 [(.t 39), (.t 40)]),
 oP 38 (.move (.t 41)),
 oP 42 (.extract (.t 38) 0),
 oP 43 (.extract (.t 38) 1),
 oP 10 (.move (.t 42)),
 oP 11 (.move (.t 43))])
 (.seq (.region 0 [oQ 45 (.load true 1 (.t 7)),
 oP 46 (.move (.t 2)),
 oQ 47 (.call 1 23 [(.t 45), (.t 46)]),
 oP 44 (.move (.t 47)),
 oP 48 (.extract (.t 44) 0),
 oP 49 (.extract (.t 44) 1),
 oP 12 (.move (.t 48)),
 oP 13 (.move (.t 49))])
 (.seq (.region 0 [oQ 51 (.load true 1 (.t 3)),
 oP 52 (.move (.t 2)),
 oQ 53 (.call 1 24 [(.t 51), (.t 52)]),
 oP 50 (.move (.t 53)),
 oP 54 (.extract (.t 50) 0),
 oP 55 (.extract (.t 50) 1),
 oP 14 (.move (.t 54)),
 oP 15 (.move (.t 55))])
 (.seq (.region 0 [oQ 57 (.load true 1 (.t 7)),
 oP 58 (.move (.t 1)),
 oP 59 (.move (.t 2)),
 oQ 60 (.call 1 25 [(.t 57), (.t 58), (.t 59)]),
 oP 56 (.move (.t 60)),
 oP 61 (.extract (.t 56) 0),
 oP 62 (.extract (.t 56) 1),
 oP 63 (.extract (.t 56) 2),
 oP 16 (.move (.t 61)),
 oP 17 (.move (.t 62)),
 oP 18 (.move (.t 63))])
 (.seq (.region 0 [oQ 65 (.load true 1 (.t 3)),
 oP 66 (.move (.t 1)),
 oP 67 (.move (.t 2)),
 oQ 68 (.call 1 26 [(.t 65), (.t 66), (.t 67)]),
 oP 64 (.move (.t 68)),
 oP 69 (.extract (.t 64) 0),
 oP 70 (.extract (.t 64) 1),
 oP 71 (.extract (.t 64) 2),
 oP 19 (.move (.t 69)),
 oP 20 (.move (.t 70)),
 oP 21 (.move (.t 71))])
 (.seq (.region 0 [oP 72 (.move (.t 8)),
 oP 73 (.move (.t 10)),
 oQ 74 (.call 1 27 [(.t 72), (.t 73)]),
 oP 75 (.move (.t 74)),
 oG 76 75 true (.move (.t 9)),
 oG 77 75 true (.move (.t 11)),
 oG 78 75 true (.bin .eql (.t 76) (.t 77)),
 oP 79 (.pick (.t 75) (.t 78) (.c (.bool false))),
 oP 80 (.move (.t 79)),
 oG 81 80 true (.move (.t 12)),
 oG 82 80 true (.move (.t 14)),
 ⟨(some 83), .call 1 27 [(.t 81), (.t 82)], (some (80, true)), none, []⟩,
 oP 84 (.pick (.t 80) (.t 83) (.c (.bool false))),
 oP 85 (.move (.t 84)),
 oG 86 85 true (.move (.t 13)),
 oG 87 85 true (.move (.t 15)),
 oG 88 85 true (.bin .eql (.t 86) (.t 87)),
 oP 89 (.pick (.t 85) (.t 88) (.c (.bool false))),
 oP 90 (.move (.t 89)),
 oG 91 90 true (.move (.t 16)),
 oG 92 90 true (.move (.t 19)),
 ⟨(some 93), .call 1 27 [(.t 91), (.t 92)], (some (90, true)), none, []⟩,
 oP 94 (.pick (.t 90) (.t 93) (.c (.bool false))),
 oP 95 (.move (.t 94)),
 oG 96 95 true (.move (.t 17)),
 oG 97 95 true (.move (.t 20)),
 oG 98 95 true (.bin .eql (.t 96) (.t 97)),
 oP 99 (.pick (.t 95) (.t 98) (.c (.bool false))),
 oP 100 (.move (.t 99)),
 oG 101 100 true (.move (.t 18)),
 oG 102 100 true (.move (.t 21)),
 oG 103 100 true (.bin .eql (.t 101) (.t 102)),
 oP 104 (.pick (.t 100) (.t 103) (.c (.bool false))),
 oP 105 (.move (.t 104)),
 ⟨(some 106), .load true 1 (.t 7), (some (105, true)), none, []⟩,
 ⟨(some 107), .load true 1 (.t 3), (some (105, true)), none, []⟩,
 ⟨(some 108), .call 1 28 [(.t 106), (.t 107)], (some (105, true)), none, []⟩,
 oP 109 (.pick (.t 105) (.t 108) (.c (.bool false))),
 oP 110 (.move (.t 109)),
 ⟨(some 111), .call 1 17 [], (some (110, true)), none, []⟩,
 oP 112 (.pick (.t 110) (.t 111) (.c (.bool false))),
 oP 6 (.move (.t 112))])
 (.ret)))))))))))⟩
/-- almadraba/almadrabalaw10.SharesFrom -/
def f4 : AFn := ⟨99, [.tmp 6],
 .seq (.region 0 [oQ 3 (.box (.t 0)),
 oP 6 (.move (.c (.bool false)))])
 (.seq (.seq (.region 0 [oQ 20 (.load true 1 (.t 3)),
 oQ 21 (.call 1 16 [(.t 20)])])
 (.cond (.t 21) (.seq (.region 0 [oQ 22 (.call 1 17 []),
 oP 6 (.move (.t 22))])
 (.ret))
 (.skip)))
 (.seq (.region 0 [oQ 23 (.load true 1 (.t 3)),
 oQ 24 (.call 1 18 [(.t 23)]),
 oQ 7 (.alloc [.nils]),
 ⟨none, .store 1 (.t 7) (.t 24), none, none, []⟩])
 (.seq (.region 0 [oQ 26 (.load true 1 (.t 7)),
 oP 27 (.move (.t 1)),
 oP 28 (.move (.t 2)),
 oQ 29 (.call 1 29 [(.t 26), (.t 27), (.t 28)]),
 oP 25 (.move (.t 29)),
 oP 30 (.extract (.t 25) 0),
 oP 31 (.extract (.t 25) 1),
 oP 8 (.move (.t 30)),
 oP 9 (.move (.t 31))])
 (.seq (.region 0 [oQ 33 (.load true 1 (.t 3)),
 oP 34 (.move (.t 1)),
 oP 35 (.move (.t 2)),
 oQ 36 (.call 1 30 [(.t 33), (.t 34), (.t 35)]),
 oP 32 (.move (.t 36)),
 oP 37 (.extract (.t 32) 0),
 oP 38 (.extract (.t 32) 1),
 oP 10 (.move (.t 37)),
 oP 11 (.move (.t 38))])
 (.seq (.region 0 [oQ 40 (.load true 1 (.t 7)),
 oP 41 (.move (.t 1)),
 oQ 42 (.call 1 31 [(.t 40), (.t 41)]),
 oP 39 (.move (.t 42)),
 oP 43 (.extract (.t 39) 0),
 oP 44 (.extract (.t 39) 1),
 oP 12 (.move (.t 43)),
 oP 13 (.move (.t 44))])
 (.seq (.region 0 [oQ 46 (.load true 1 (.t 3)),
 oP 47 (.move (.t 1)),
 oQ 48 (.call 1 32 [(.t 46), (.t 47)]),
 oP 45 (.move (.t 48)),
 oP 49 (.extract (.t 45) 0),
 oP 50 (.extract (.t 45) 1),
 oP 14 (.move (.t 49)),
 oP 15 (.move (.t 50))])
 (.seq (.region 0 [oQ 52 (.load true 1 (.t 7)),
 oP 53 (.move (.t 1)),
 oQ 54 (.call 1 33 [(.t 52), (.t 53)]),
 oP 51 (.move (.t 54)),
 oP 55 (.extract (.t 51) 0),
 oP 56 (.extract (.t 51) 1),
 oQ 16 (.alloc [.int .i64 0, .int .i64 0]),
 ⟨none, .store 2 (.t 16) (.t 55), none, none, []⟩,
 oP 17 (.move (.t 56))])
 (.seq (.region 0 [oQ 58 (.load true 1 (.t 3)),
 oP 59 (.move (.t 1)),
 oQ 60 (.call 1 34 [(.t 58), (.t 59)]),
 oP 57 (.move (.t 60)),
 oP 61 (.extract (.t 57) 0),
 oP 62 (.extract (.t 57) 1),
 oQ 18 (.alloc [.int .i64 0, .int .i64 0]),
 ⟨none, .store 2 (.t 18) (.t 61), none, none, []⟩,
 oP 19 (.move (.t 62))])
 (.seq (.region 0 [oP 63 (.move (.t 8)),
 oP 64 (.move (.t 10)),
 oP 65 (.bin .eql (.t 63) (.t 64)),
 oP 66 (.move (.t 65)),
 oG 67 66 true (.move (.t 9)),
 oG 68 66 true (.move (.t 11)),
 oG 69 66 true (.bin .eql (.t 67) (.t 68)),
 oP 70 (.pick (.t 66) (.t 69) (.c (.bool false))),
 oP 71 (.move (.t 70)),
 oG 72 71 true (.move (.t 12)),
 oG 73 71 true (.move (.t 14)),
 oG 74 71 true (.bin .eql (.t 72) (.t 73)),
 oP 75 (.pick (.t 71) (.t 74) (.c (.bool false))),
 oP 76 (.move (.t 75)),
 oG 77 76 true (.move (.t 13)),
 oG 78 76 true (.move (.t 15)),
 oG 79 76 true (.bin .eql (.t 77) (.t 78)),
 oP 80 (.pick (.t 76) (.t 79) (.c (.bool false))),
 oP 81 (.move (.t 80)),
 ⟨(some 82), .load true 2 (.t 16), (some (81, true)), none, []⟩,
 ⟨(some 83), .load true 2 (.t 18), (some (81, true)), none, []⟩,
 oG 84 81 true (.eqS false [true, true] (.t 82) (.t 83)),
 oP 85 (.pick (.t 81) (.t 84) (.c (.bool false))),
 oP 86 (.move (.t 85)),
 oG 87 86 true (.move (.t 17)),
 oG 88 86 true (.move (.t 19)),
 oG 89 86 true (.bin .eql (.t 87) (.t 88)),
 oP 90 (.pick (.t 86) (.t 89) (.c (.bool false))),
 oP 91 (.move (.t 90)),
 ⟨(some 92), .load true 1 (.t 7), (some (91, true)), none, []⟩,
 ⟨(some 93), .load true 1 (.t 3), (some (91, true)), none, []⟩,
 ⟨(some 94), .call 1 28 [(.t 92), (.t 93)], (some (91, true)), none, []⟩,
 oP 95 (.pick (.t 91) (.t 94) (.c (.bool false))),
 oP 96 (.move (.t 95)),
 ⟨(some 97), .call 1 17 [], (some (96, true)), none, []⟩,
 oP 98 (.pick (.t 96) (.t 97) (.c (.bool false))),
 oP 6 (.move (.t 98))])
 (.ret))))))))))⟩
/-- almadraba/almadrabalaw10.SharesEnough -/
def f5 : AFn := ⟨57, [.tmp 4],
 .seq (.region 0 [oQ 2 (.box (.t 0)),
 oP 4 (.move (.c (.bool false)))])
 (.seq (.seq (.region 0 [oQ 11 (.load true 1 (.t 2)),
 oQ 12 (.call 1 16 [(.t 11)]),
 oP 13 (.move (.t 12)),
 oG 14 13 false (.move (.t 1)),
 oG 15 13 false (.lenS (.t 14)),
 oG 16 13 false (.bin .gtr (.t 15) (.c (.int .i64 40))),
 oP 17 (.pick (.t 13) (.c (.bool true)) (.t 16))])
 (.cond (.t 17) (.seq (.region 0 [oQ 18 (.call 1 17 []),
 oP 4 (.move (.t 18))])
 (.ret))
 (.skip)))
 (.seq (.region 0 [oQ 19 (.load true 1 (.t 2)),
 oQ 20 (.call 1 18 [(.t 19)]),
 oQ 21 (.buildSlice 1 0 [.int .i64 0] []),
 oP 22 (.move (.t 1)),
 oQ 23 (.append false 1 8 (.t 21) (.t 22)),
 oQ 5 (.alloc [.nils]),
 ⟨none, .store 1 (.t 5) (.t 20), none, none, []⟩,
 oP 6 (.move (.t 23))])
 (.seq (.region 0 [oQ 25 (.load true 1 (.t 5)),
 oP 26 (.move (.t 6)),
 oQ 27 (.call 1 35 [(.t 25), (.t 26)]),
 oP 24 (.move (.t 27)),
 oP 28 (.extract (.t 24) 0),
 oP 29 (.extract (.t 24) 1),
 oP 7 (.move (.t 28)),
 oP 8 (.move (.t 29))])
 (.seq (.region 0 [oQ 31 (.load true 1 (.t 2)),
 oP 32 (.move (.t 1)),
 oQ 33 (.call 1 36 [(.t 31), (.t 32)]),
 oP 30 (.move (.t 33)),
 oP 34 (.extract (.t 30) 0),
 oP 35 (.extract (.t 30) 1),
 oP 9 (.move (.t 34)),
 oP 10 (.move (.t 35))])
 (.seq (.region 0 [oP 36 (.move (.t 7)),
 oP 37 (.move (.t 9)),
 oP 38 (.bin .eql (.t 36) (.t 37)),
 oP 39 (.move (.t 38)),
 oG 40 39 true (.move (.t 8)),
 oG 41 39 true (.move (.t 10)),
 oG 42 39 true (.bin .eql (.t 40) (.t 41)),
 oP 43 (.pick (.t 39) (.t 42) (.c (.bool false))),
 oP 44 (.move (.t 43)),
 ⟨(some 45), .load true 1 (.t 5), (some (44, true)), none, []⟩,
 ⟨(some 46), .load true 1 (.t 2), (some (44, true)), none, []⟩,
 ⟨(some 47), .call 1 28 [(.t 45), (.t 46)], (some (44, true)), none, []⟩,
 oP 48 (.pick (.t 44) (.t 47) (.c (.bool false))),
 oP 49 (.move (.t 48)),
 oG 50 49 true (.move (.t 6)),
 oG 51 49 true (.move (.t 1)),
 ⟨(some 52), .call 1 27 [(.t 50), (.t 51)], (some (49, true)), none, []⟩,
 oP 53 (.pick (.t 49) (.t 52) (.c (.bool false))),
 oP 54 (.move (.t 53)),
 ⟨(some 55), .call 1 17 [], (some (54, true)), none, []⟩,
 oP 56 (.pick (.t 54) (.t 55) (.c (.bool false))),
 oP 4 (.move (.t 56))])
 (.ret))))))⟩
/-- almadraba/almadrabalaw10.SharesOld -/
def f6 : AFn := ⟨114, [.tmp 6],
 .seq (.region 0 [oQ 3 (.box (.t 0)),
 oP 6 (.move (.c (.bool false)))])
 (.seq (.seq (.region 0 [oQ 21 (.load true 1 (.t 3)),
 oQ 22 (.call 1 16 [(.t 21)]),
 oP 23 (.move (.t 22)),
 oG 24 23 false (.move (.t 2)),
 oG 25 23 false (.lenS (.t 24)),
 oG 26 23 false (.bin .gtr (.t 25) (.c (.int .i64 40))),
 oP 27 (.pick (.t 23) (.c (.bool true)) (.t 26))])
 (.cond (.t 27) (.seq (.region 0 [oQ 28 (.call 1 17 []),
 oP 6 (.move (.t 28))])
 (.ret))
 (.skip)))
 (.seq (.region 0 [oQ 29 (.load true 1 (.t 3)),
 oQ 30 (.call 1 18 [(.t 29)]),
 oP 31 (.move (.t 2)),
 oQ 32 (.call 1 37 [(.t 31)]),
 oQ 7 (.alloc [.nils]),
 ⟨none, .store 1 (.t 7) (.t 30), none, none, []⟩,
 oP 8 (.move (.t 32))])
 (.seq (.region 0 [oQ 34 (.load true 1 (.t 7)),
 oP 35 (.move (.t 8)),
 oQ 36 (.call 1 38 [(.t 34), (.t 35)]),
 oP 33 (.move (.t 36)),
 oP 37 (.extract (.t 33) 0),
 oP 38 (.extract (.t 33) 1),
 oP 9 (.move (.t 37)),
 oP 10 (.move (.t 38))])
 (.seq (.region 0 [oQ 40 (.load true 1 (.t 3)),
 oP 41 (.move (.t 2)),
 oQ 42 (.call 1 39 [(.t 40), (.t 41)]),
 oP 39 (.move (.t 42)),
 oP 43 (.extract (.t 39) 0),
 oP 44 (.extract (.t 39) 1),
 oP 11 (.move (.t 43)),
 oP 12 (.move (.t 44))])
 (.seq (.region 0 [oQ 46 (.load true 1 (.t 7)),
 oP 47 (.move (.t 1)),
 oP 48 (.move (.t 8)),
 oQ 49 (.call 1 40 [(.t 46), (.t 47), (.t 48)]),
 oP 45 (.move (.t 49)),
 oP 50 (.extract (.t 45) 0),
 oP 51 (.extract (.t 45) 1),
 oP 13 (.move (.t 50)),
 oP 14 (.move (.t 51))])
 (.seq (.region 0 [oQ 53 (.load true 1 (.t 3)),
 oP 54 (.move (.t 1)),
 oP 55 (.move (.t 2)),
 oQ 56 (.call 1 41 [(.t 53), (.t 54), (.t 55)]),
 oP 52 (.move (.t 56)),
 oP 57 (.extract (.t 52) 0),
 oP 58 (.extract (.t 52) 1),
 oP 15 (.move (.t 57)),
 oP 16 (.move (.t 58))])
 (.seq (.region 0 [oQ 60 (.load true 1 (.t 7)),
 oP 61 (.move (.t 1)),
 oP 62 (.move (.t 8)),
 oQ 63 (.call 1 42 [(.t 60), (.t 61), (.t 62)]),
 oP 59 (.move (.t 63)),
 oP 64 (.extract (.t 59) 0),
 oP 65 (.extract (.t 59) 1),
 oP 17 (.move (.t 64)),
 oP 18 (.move (.t 65))])
 (.seq (.region 0 [oQ 67 (.load true 1 (.t 3)),
 oP 68 (.move (.t 1)),
 oP 69 (.move (.t 2)),
 oQ 70 (.call 1 43 [(.t 67), (.t 68), (.t 69)]),
 oP 66 (.move (.t 70)),
 oP 71 (.extract (.t 66) 0),
 oP 72 (.extract (.t 66) 1),
 oP 19 (.move (.t 71)),
 oP 20 (.move (.t 72))])
 (.seq (.region 0 [oP 73 (.move (.t 9)),
 oP 74 (.move (.t 11)),
 oQ 75 (.call 1 27 [(.t 73), (.t 74)]),
 oP 76 (.move (.t 75)),
 oG 77 76 true (.move (.t 10)),
 oG 78 76 true (.move (.t 12)),
 oG 79 76 true (.bin .eql (.t 77) (.t 78)),
 oP 80 (.pick (.t 76) (.t 79) (.c (.bool false))),
 oP 81 (.move (.t 80)),
 oG 82 81 true (.move (.t 13)),
 oG 83 81 true (.move (.t 15)),
 ⟨(some 84), .call 1 27 [(.t 82), (.t 83)], (some (81, true)), none, []⟩,
 oP 85 (.pick (.t 81) (.t 84) (.c (.bool false))),
 oP 86 (.move (.t 85)),
 oG 87 86 true (.move (.t 14)),
 oG 88 86 true (.move (.t 16)),
 oG 89 86 true (.bin .eql (.t 87) (.t 88)),
 oP 90 (.pick (.t 86) (.t 89) (.c (.bool false))),
 oP 91 (.move (.t 90)),
 oG 92 91 true (.move (.t 17)),
 oG 93 91 true (.move (.t 19)),
 oG 94 91 true (.bin .eql (.t 92) (.t 93)),
 oP 95 (.pick (.t 91) (.t 94) (.c (.bool false))),
 oP 96 (.move (.t 95)),
 oG 97 96 true (.move (.t 18)),
 oG 98 96 true (.move (.t 20)),
 oG 99 96 true (.bin .eql (.t 97) (.t 98)),
 oP 100 (.pick (.t 96) (.t 99) (.c (.bool false))),
 oP 101 (.move (.t 100)),
 ⟨(some 102), .load true 1 (.t 7), (some (101, true)), none, []⟩,
 ⟨(some 103), .load true 1 (.t 3), (some (101, true)), none, []⟩,
 ⟨(some 104), .call 1 28 [(.t 102), (.t 103)], (some (101, true)), none, []⟩,
 oP 105 (.pick (.t 101) (.t 104) (.c (.bool false))),
 oP 106 (.move (.t 105)),
 oG 107 106 true (.move (.t 8)),
 oG 108 106 true (.move (.t 2)),
 ⟨(some 109), .call 1 44 [(.t 107), (.t 108)], (some (106, true)), none, []⟩,
 oP 110 (.pick (.t 106) (.t 109) (.c (.bool false))),
 oP 111 (.move (.t 110)),
 ⟨(some 112), .call 1 17 [], (some (111, true)), none, []⟩,
 oP 113 (.pick (.t 111) (.t 112) (.c (.bool false))),
 oP 6 (.move (.t 113))])
 (.ret))))))))))⟩
/-- almadraba/almadrabalaw10.SharesOnce -/
def f7 : AFn := ⟨154, [.tmp 4],
 .seq (.region 0 [oQ 2 (.box (.t 0)),
 oP 4 (.move (.c (.bool false)))])
 (.seq (.seq (.region 0 [oQ 17 (.load true 1 (.t 2)),
 oQ 18 (.call 1 45 [(.t 17)]),
 oP 19 (.un .not (.t 18)),
 oP 20 (.move (.t 19)),
 oG 21 20 false (.move (.t 1)),
 ⟨(some 22), .call 1 46 [(.t 21)], (some (20, false)), none, []⟩,
 oG 23 20 false (.un .not (.t 22)),
 oP 24 (.pick (.t 20) (.c (.bool true)) (.t 23))])
 (.cond (.t 24) (.seq (.region 0 [oQ 25 (.call 1 17 []),
 oP 4 (.move (.t 25))])
 (.ret))
 (.skip)))
 (.seq (.region 0 [oQ 27 (.load true 1 (.t 2)),
 oP 28 (.move (.t 1)),
 oQ 29 (.call 1 47 [(.t 27), (.t 28)]),
 oP 26 (.move (.t 29)),
 oP 30 (.extract (.t 26) 0),
 oP 31 (.extract (.t 26) 1),
 oP 5 (.move (.t 30)),
 oP 6 (.move (.t 31))])
 (.seq (.region 0 [oQ 33 (.load true 1 (.t 2)),
 oP 34 (.move (.t 1)),
 oQ 35 (.call 1 23 [(.t 33), (.t 34)]),
 oP 32 (.move (.t 35)),
 oP 36 (.extract (.t 32) 0),
 oP 37 (.extract (.t 32) 1),
 oP 7 (.move (.t 36)),
 oP 8 (.move (.t 37))])
 (.seq (.seq (.region 0 [oP 38 (.move (.t 6)),
 oP 39 (.un .not (.t 38)),
 oP 40 (.move (.t 39)),
 oG 41 40 false (.move (.t 8)),
 oG 42 40 false (.bin .neq (.t 41) (.c (.int .i64 0))),
 oP 43 (.pick (.t 40) (.c (.bool true)) (.t 42)),
 oP 44 (.move (.t 43)),
 oG 45 44 false (.move (.t 7)),
 oG 46 44 false (.lenS (.t 45)),
 oG 47 44 false (.fieldAddr 0 (.t 2)),
 ⟨(some 48), .load false 1 (.t 47), (some (44, false)), none, []⟩,
 oG 49 44 false (.lenS (.t 48)),
 oG 50 44 false (.bin .neq (.t 46) (.t 49)),
 oP 51 (.pick (.t 44) (.c (.bool true)) (.t 50))])
 (.cond (.t 51) (.seq (.region 0 [oP 4 (.move (.c (.bool false)))])
 (.ret))
 (.skip)))
 (.seq (.region 0 [oP 9 (.move (.c (.int .i64 0)))])
 (.seq (.seq (.region 0 [oP 10 (.move (.c (.int .i64 0)))])
 (.block 0 (.loop (.seq (.seq (.region 0 [oP 52 (.move (.t 10)),
 oP 53 (.move (.t 5)),
 oP 54 (.lenS (.t 53)),
 oP 55 (.bin .lss (.t 52) (.t 54))])
 (.cond (.t 55) (.skip)
 (.exit 0)))
 (.seq (.block 1 (.seq (.region 0 [oQ 59 (.load true 1 (.t 2)),
 oP 60 (.move (.t 10)),
 oP 61 (.move (.t 5)),
 oP 62 (.move (.t 10)),
 oP 63 (.idxSl 1 (.t 61) (.t 62)),
 oQ 64 (.load false 1 (.t 63)),
 oQ 65 (.call 1 25 [(.t 59), (.t 60), (.t 64)]),
 oP 58 (.move (.t 65)),
 oP 66 (.extract (.t 58) 0),
 oP 67 (.extract (.t 58) 1),
 oP 68 (.extract (.t 58) 2),
 oP 11 (.move (.t 66)),
 oP 12 (.move (.t 67)),
 oP 13 (.move (.t 68))])
 (.seq (.region 0 [oQ 69 (.load true 1 (.t 2)),
 oP 70 (.move (.t 10)),
 oQ 71 (.call 1 48 [(.t 69), (.t 70)]),
 oP 14 (.move (.t 71))])
 (.seq (.seq (.region 0 [oP 72 (.move (.t 13)),
 oP 73 (.bin .neq (.t 72) (.c (.int .i64 0))),
 oP 74 (.move (.t 73)),
 oG 75 74 false (.move (.t 11)),
 oG 76 74 false (.lenS (.t 75)),
 oG 77 74 false (.move (.t 14)),
 oG 78 74 false (.lenS (.t 77)),
 oG 79 74 false (.bin .neq (.t 76) (.t 78)),
 oP 80 (.pick (.t 74) (.c (.bool true)) (.t 79)),
 oP 81 (.move (.t 80)),
 oG 82 81 false (.move (.t 12)),
 oG 83 81 false (.move (.t 7)),
 oG 84 81 false (.move (.t 10)),
 oG 85 81 false (.idxSl 1 (.t 83) (.t 84)),
 ⟨(some 86), .load false 1 (.t 85), (some (81, false)), none, []⟩,
 oG 87 81 false (.bin .neq (.t 82) (.t 86)),
 oP 88 (.pick (.t 81) (.c (.bool true)) (.t 87)),
 oP 89 (.move (.t 88)),
 oG 90 89 false (.move (.t 7)),
 oG 91 89 false (.move (.t 10)),
 oG 92 89 false (.idxSl 1 (.t 90) (.t 91)),
 ⟨(some 93), .load false 1 (.t 92), (some (89, false)), none, []⟩,
 oG 94 89 false (.bin .lss (.t 93) (.c (.int .i64 0))),
 oP 95 (.pick (.t 89) (.c (.bool true)) (.t 94)),
 oP 96 (.move (.t 95)),
 oG 97 96 false (.move (.t 7)),
 oG 98 96 false (.move (.t 10)),
 oG 99 96 false (.idxSl 1 (.t 97) (.t 98)),
 ⟨(some 100), .load false 1 (.t 99), (some (96, false)), none, []⟩,
 oG 101 96 false (.move (.t 1)),
 oG 102 96 false (.bin .gtr (.t 100) (.t 101)),
 oP 103 (.pick (.t 96) (.c (.bool true)) (.t 102))])
 (.cond (.t 103) (.seq (.region 0 [oP 4 (.move (.c (.bool false)))])
 (.ret))
 (.skip)))
 (.seq (.region 0 [oP 104 (.move (.t 12)),
 oP 15 (.move (.t 104))])
 (.seq (.seq (.region 0 [oP 16 (.move (.c (.int .i64 0)))])
 (.block 2 (.loop (.seq (.seq (.region 0 [oP 105 (.move (.t 16)),
 oP 106 (.move (.t 14)),
 oP 107 (.lenS (.t 106)),
 oP 108 (.bin .lss (.t 105) (.t 107))])
 (.cond (.t 108) (.skip)
 (.exit 2)))
 (.seq (.block 3 (.seq (.seq (.region 0 [oP 111 (.move (.t 11)),
 oP 112 (.move (.t 16)),
 oP 113 (.idxSl 1 (.t 111) (.t 112)),
 oQ 114 (.load false 1 (.t 113)),
 oP 115 (.move (.t 5)),
 oP 116 (.move (.t 14)),
 oP 117 (.move (.t 16)),
 oP 118 (.idxSl 1 (.t 116) (.t 117)),
 oQ 119 (.load false 1 (.t 118)),
 oP 120 (.idxSl 1 (.t 115) (.t 119)),
 oQ 121 (.load false 1 (.t 120)),
 oP 122 (.bin .neq (.t 114) (.t 121))])
 (.cond (.t 122) (.seq (.region 0 [oP 4 (.move (.c (.bool false)))])
 (.ret))
 (.skip)))
 (.region 0 [oP 123 (.move (.t 15)),
 oP 124 (.move (.t 11)),
 oP 125 (.move (.t 16)),
 oP 126 (.idxSl 1 (.t 124) (.t 125)),
 oQ 127 (.load false 1 (.t 126)),
 oP 128 (.bin .add (.t 123) (.t 127)),
 oP 15 (.move (.t 128))])))
 (.region 0 [oP 109 (.move (.t 16)),
 oP 110 (.bin .add (.t 109) (.c (.int .i64 1))),
 oP 16 (.move (.t 110))]))))))
 (.seq (.seq (.region 0 [oP 129 (.move (.t 15)),
 oP 130 (.move (.t 5)),
 oP 131 (.move (.t 10)),
 oP 132 (.idxSl 1 (.t 130) (.t 131)),
 oQ 133 (.load false 1 (.t 132)),
 oP 134 (.bin .neq (.t 129) (.t 133))])
 (.cond (.t 134) (.seq (.region 0 [oP 4 (.move (.c (.bool false)))])
 (.ret))
 (.skip)))
 (.region 0 [oP 135 (.move (.t 9)),
 oP 136 (.move (.t 7)),
 oP 137 (.move (.t 10)),
 oP 138 (.idxSl 1 (.t 136) (.t 137)),
 oQ 139 (.load false 1 (.t 138)),
 oP 140 (.bin .add (.t 135) (.t 139)),
 oP 9 (.move (.t 140))]))))))))
 (.region 0 [oP 56 (.move (.t 10)),
 oP 57 (.bin .add (.t 56) (.c (.int .i64 1))),
 oP 10 (.move (.t 57))]))))))
 (.seq (.region 0 [oP 141 (.move (.t 9)),
 oP 142 (.move (.t 1)),
 oP 143 (.bin .eql (.t 141) (.t 142)),
 oP 144 (.move (.t 143)),
 oG 145 144 true (.move (.t 5)),
 oG 146 144 true (.idxSl 1 (.t 145) (.c (.int .i64 0))),
 ⟨(some 147), .load false 1 (.t 146), (some (144, true)), none, []⟩,
 oG 148 144 true (.move (.t 1)),
 oG 149 144 true (.bin .eql (.t 147) (.t 148)),
 oP 150 (.pick (.t 144) (.t 149) (.c (.bool false))),
 oP 151 (.move (.t 150)),
 ⟨(some 152), .call 1 17 [], (some (151, true)), none, []⟩,
 oP 153 (.pick (.t 151) (.t 152) (.c (.bool false))),
 oP 4 (.move (.t 153))])
 (.ret))))))))⟩
/-- almadraba/almadrabalaw10.SharesNear -/
def f8 : AFn := ⟨158, [.tmp 6],
 .seq (.region 0 [oQ 3 (.box (.t 0)),
 oP 6 (.move (.c (.bool false)))])
 (.seq (.seq (.region 0 [oQ 18 (.load true 1 (.t 3)),
 oQ 19 (.call 1 45 [(.t 18)]),
 oP 20 (.un .not (.t 19)),
 oP 21 (.move (.t 20)),
 ⟨(some 22), .load true 1 (.t 3), (some (21, false)), none, []⟩,
 oG 23 21 false (.move (.t 1)),
 ⟨(some 24), .call 1 49 [(.t 22), (.t 23)], (some (21, false)), none, []⟩,
 oG 25 21 false (.un .not (.t 24)),
 oP 26 (.pick (.t 21) (.c (.bool true)) (.t 25)),
 oP 27 (.move (.t 26)),
 oG 28 27 false (.move (.t 2)),
 ⟨(some 29), .call 1 46 [(.t 28)], (some (27, false)), none, []⟩,
 oG 30 27 false (.un .not (.t 29)),
 oP 31 (.pick (.t 27) (.c (.bool true)) (.t 30))])
 (.cond (.t 31) (.seq (.region 0 [oQ 32 (.call 1 17 []),
 oP 6 (.move (.t 32))])
 (.ret))
 (.skip)))
 (.seq (.region 0 [oQ 33 (.load true 1 (.t 3)),
 oP 34 (.move (.t 1)),
 oQ 35 (.call 1 48 [(.t 33), (.t 34)]),
 oP 7 (.move (.t 35))])
 (.seq (.seq (.region 0 [oP 8 (.move (.c (.int .i64 0)))])
 (.block 0 (.loop (.seq (.seq (.region 0 [oP 36 (.move (.t 8)),
 oP 37 (.move (.t 7)),
 oP 38 (.lenS (.t 37)),
 oP 39 (.bin .lss (.t 36) (.t 38))])
 (.cond (.t 39) (.skip)
 (.exit 0)))
 (.seq (.block 1 (.seq (.region 0 [oP 42 (.fieldAddr 0 (.t 3)),
 oQ 43 (.load false 1 (.t 42)),
 oP 44 (.move (.t 7)),
 oP 45 (.move (.t 8)),
 oP 46 (.idxSl 1 (.t 44) (.t 45)),
 oQ 47 (.load false 1 (.t 46)),
 oP 48 (.idxSl 3 (.t 43) (.t 47)),
 oP 49 (.fieldAddr 2 (.t 48)),
 oQ 50 (.load false 1 (.t 49)),
 oP 51 (.bin .gtr (.t 50) (.c (.int .i64 0)))])
 (.cond (.t 51) (.seq (.region 0 [oQ 52 (.call 1 17 []),
 oP 6 (.move (.t 52))])
 (.ret))
 (.skip))))
 (.region 0 [oP 40 (.move (.t 8)),
 oP 41 (.bin .add (.t 40) (.c (.int .i64 1))),
 oP 8 (.move (.t 41))]))))))
 (.seq (.region 0 [oQ 54 (.load true 1 (.t 3)),
 oP 55 (.move (.t 1)),
 oP 56 (.move (.t 2)),
 oQ 57 (.call 1 25 [(.t 54), (.t 55), (.t 56)]),
 oP 53 (.move (.t 57)),
 oP 58 (.extract (.t 53) 0),
 oP 59 (.extract (.t 53) 1),
 oP 60 (.extract (.t 53) 2),
 oP 9 (.move (.t 58)),
 oP 10 (.move (.t 59)),
 oP 11 (.move (.t 60))])
 (.seq (.seq (.region 0 [oP 61 (.move (.t 11)),
 oP 62 (.bin .neq (.t 61) (.c (.int .i64 0))),
 oP 63 (.move (.t 62)),
 oG 64 63 false (.move (.t 9)),
 oG 65 63 false (.lenS (.t 64)),
 oG 66 63 false (.move (.t 7)),
 oG 67 63 false (.lenS (.t 66)),
 oG 68 63 false (.bin .neq (.t 65) (.t 67)),
 oP 69 (.pick (.t 63) (.c (.bool true)) (.t 68))])
 (.cond (.t 69) (.seq (.region 0 [oP 6 (.move (.c (.bool false)))])
 (.ret))
 (.skip)))
 (.seq (.region 0 [oQ 70 (.load true 1 (.t 3)),
 oP 71 (.move (.t 1)),
 oQ 72 (.call 1 50 [(.t 70), (.t 71)]),
 oP 12 (.move (.t 72))])
 (.seq (.seq (.region 0 [oP 73 (.move (.t 12)),
 oP 74 (.bin .eql (.t 73) (.c (.int .i64 0)))])
 (.cond (.t 74) (.seq (.seq (.region 0 [oP 13 (.move (.c (.int .i64 0)))])
 (.block 2 (.loop (.seq (.seq (.region 0 [oP 75 (.move (.t 13)),
 oP 76 (.move (.t 9)),
 oP 77 (.lenS (.t 76)),
 oP 78 (.bin .lss (.t 75) (.t 77))])
 (.cond (.t 78) (.skip)
 (.exit 2)))
 (.seq (.block 3 (.seq (.region 0 [oP 81 (.move (.t 9)),
 oP 82 (.move (.t 13)),
 oP 83 (.idxSl 1 (.t 81) (.t 82)),
 oQ 84 (.load false 1 (.t 83)),
 oP 85 (.bin .neq (.t 84) (.c (.int .i64 0)))])
 (.cond (.t 85) (.seq (.region 0 [oP 6 (.move (.c (.bool false)))])
 (.ret))
 (.skip))))
 (.region 0 [oP 79 (.move (.t 13)),
 oP 80 (.bin .add (.t 79) (.c (.int .i64 1))),
 oP 13 (.move (.t 80))]))))))
 (.seq (.region 0 [oP 86 (.move (.t 10)),
 oP 87 (.move (.t 2)),
 oP 88 (.bin .eql (.t 86) (.t 87)),
 oP 89 (.move (.t 88)),
 ⟨(some 90), .call 1 17 [], (some (89, true)), none, []⟩,
 oP 91 (.pick (.t 89) (.t 90) (.c (.bool false))),
 oP 6 (.move (.t 91))])
 (.ret)))
 (.skip)))
 (.seq (.region 0 [oP 14 (.move (.c (.bool true)))])
 (.seq (.seq (.region 0 [oP 15 (.move (.c (.int .i64 0)))])
 (.block 4 (.loop (.seq (.seq (.region 0 [oP 92 (.move (.t 15)),
 oP 93 (.move (.t 9)),
 oP 94 (.lenS (.t 93)),
 oP 95 (.bin .lss (.t 92) (.t 94))])
 (.cond (.t 95) (.skip)
 (.exit 4)))
 (.seq (.block 5 (.seq (.region 0 [oP 98 (.fieldAddr 0 (.t 3)),
 oQ 99 (.load false 1 (.t 98)),
 oP 100 (.move (.t 7)),
 oP 101 (.move (.t 15)),
 oP 102 (.idxSl 1 (.t 100) (.t 101)),
 oQ 103 (.load false 1 (.t 102)),
 oP 104 (.idxSl 3 (.t 99) (.t 103)),
 oP 105 (.fieldAddr 1 (.t 104)),
 oQ 106 (.load false 1 (.t 105)),
 oP 16 (.move (.t 106))])
 (.seq (.region 0 [oP 107 (.move (.t 2)),
 oP 108 (.move (.t 16)),
 oP 109 (.bin .mul (.t 107) (.t 108)),
 oP 110 (.move (.t 12)),
 oP 111 (.bin .quo (.t 109) (.t 110)),
 oP 17 (.move (.t 111))])
 (.seq (.seq (.region 0 [oP 112 (.move (.t 9)),
 oP 113 (.move (.t 15)),
 oP 114 (.idxSl 1 (.t 112) (.t 113)),
 oQ 115 (.load false 1 (.t 114)),
 oP 116 (.move (.t 17)),
 oP 117 (.bin .neq (.t 115) (.t 116)),
 oP 118 (.move (.t 117)),
 oG 119 118 true (.move (.t 9)),
 oG 120 118 true (.move (.t 15)),
 oG 121 118 true (.idxSl 1 (.t 119) (.t 120)),
 ⟨(some 122), .load false 1 (.t 121), (some (118, true)), none, []⟩,
 oG 123 118 true (.move (.t 17)),
 oG 124 118 true (.bin .add (.t 123) (.c (.int .i64 1))),
 oG 125 118 true (.bin .neq (.t 122) (.t 124)),
 oP 126 (.pick (.t 118) (.t 125) (.c (.bool false))),
 oP 127 (.move (.t 126)),
 oG 128 127 false (.move (.t 9)),
 oG 129 127 false (.move (.t 15)),
 oG 130 127 false (.idxSl 1 (.t 128) (.t 129)),
 ⟨(some 131), .load false 1 (.t 130), (some (127, false)), none, []⟩,
 oG 132 127 false (.move (.t 17)),
 oG 133 127 false (.bin .gtr (.t 131) (.t 132)),
 oG 134 127 false (.move (.t 133)),
 oG 135 134 true (.move (.t 14)),
 oG 136 134 true (.un .not (.t 135)),
 oG 137 134 true (.move (.t 136)),
 oG 138 137 false (.move (.t 16)),
 oG 139 137 false (.bin .eql (.t 138) (.c (.int .i64 0))),
 oG 140 134 true (.pick (.t 137) (.c (.bool true)) (.t 139)),
 oG 141 127 false (.pick (.t 134) (.t 140) (.c (.bool false))),
 oP 142 (.pick (.t 127) (.c (.bool true)) (.t 141))])
 (.cond (.t 142) (.seq (.region 0 [oP 6 (.move (.c (.bool false)))])
 (.ret))
 (.skip)))
 (.seq (.region 0 [oP 143 (.move (.t 16)),
 oP 144 (.bin .gtr (.t 143) (.c (.int .i64 0))),
 oP 145 (.move (.t 144)),
 oG 146 145 true (.move (.t 9)),
 oG 147 145 true (.move (.t 15)),
 oG 148 145 true (.idxSl 1 (.t 146) (.t 147)),
 ⟨(some 149), .load false 1 (.t 148), (some (145, true)), none, []⟩,
 oG 150 145 true (.move (.t 17)),
 oG 151 145 true (.bin .eql (.t 149) (.t 150)),
 oP 152 (.pick (.t 145) (.t 151) (.c (.bool false)))])
 (.cond (.t 152) (.region 0 [oP 14 (.move (.c (.bool false)))])
 (.skip)))))))
 (.region 0 [oP 96 (.move (.t 15)),
 oP 97 (.bin .add (.t 96) (.c (.int .i64 1))),
 oP 15 (.move (.t 97))]))))))
 (.seq (.region 0 [oP 153 (.move (.t 10)),
 oP 154 (.bin .eql (.t 153) (.c (.int .i64 0))),
 oP 155 (.move (.t 154)),
 ⟨(some 156), .call 1 17 [], (some (155, true)), none, []⟩,
 oP 157 (.pick (.t 155) (.t 156) (.c (.bool false))),
 oP 6 (.move (.t 157))])
 (.ret)))))))))))⟩
/-- almadraba/almadrabalaw10.SharesPenny -/
def f9 : AFn := ⟨67, [.tmp 4],
 .seq (.region 0 [oQ 2 (.box (.t 0)),
 oP 4 (.move (.c (.bool false)))])
 (.seq (.seq (.region 0 [oQ 10 (.load true 1 (.t 2)),
 oQ 11 (.call 1 45 [(.t 10)]),
 oP 12 (.un .not (.t 11)),
 oP 13 (.move (.t 12)),
 oG 14 13 false (.move (.t 1)),
 ⟨(some 15), .call 1 51 [(.t 14), (.c (.int .i64 0)), (.c (.int .i64 399))], (some (13, false)), none, []⟩,
 oG 16 13 false (.un .not (.t 15)),
 oP 17 (.pick (.t 13) (.c (.bool true)) (.t 16))])
 (.cond (.t 17) (.seq (.region 0 [oQ 18 (.call 1 17 []),
 oP 4 (.move (.t 18))])
 (.ret))
 (.skip)))
 (.seq (.region 0 [oQ 20 (.load true 1 (.t 2)),
 oP 21 (.move (.t 1)),
 oQ 22 (.call 1 47 [(.t 20), (.t 21)]),
 oP 19 (.move (.t 22)),
 oP 23 (.extract (.t 19) 0),
 oP 24 (.extract (.t 19) 1),
 oP 5 (.move (.t 23)),
 oP 6 (.move (.t 24))])
 (.seq (.region 0 [oQ 26 (.load true 1 (.t 2)),
 oP 27 (.move (.t 1)),
 oP 28 (.bin .add (.t 27) (.c (.int .i64 1))),
 oQ 29 (.call 1 47 [(.t 26), (.t 28)]),
 oP 25 (.move (.t 29)),
 oP 30 (.extract (.t 25) 0),
 oP 31 (.extract (.t 25) 1),
 oP 7 (.move (.t 30)),
 oP 8 (.move (.t 31))])
 (.seq (.seq (.region 0 [oP 32 (.move (.t 6)),
 oP 33 (.un .not (.t 32)),
 oP 34 (.move (.t 33)),
 oG 35 34 false (.move (.t 8)),
 oG 36 34 false (.un .not (.t 35)),
 oP 37 (.pick (.t 34) (.c (.bool true)) (.t 36))])
 (.cond (.t 37) (.seq (.region 0 [oP 4 (.move (.c (.bool false)))])
 (.ret))
 (.skip)))
 (.seq (.seq (.region 0 [oP 9 (.move (.c (.int .i64 0)))])
 (.block 0 (.loop (.seq (.seq (.region 0 [oP 38 (.move (.t 9)),
 oP 39 (.move (.t 5)),
 oP 40 (.lenS (.t 39)),
 oP 41 (.bin .lss (.t 38) (.t 40))])
 (.cond (.t 41) (.skip)
 (.exit 0)))
 (.seq (.block 1 (.seq (.region 0 [oP 44 (.move (.t 7)),
 oP 45 (.move (.t 9)),
 oP 46 (.idxSl 1 (.t 44) (.t 45)),
 oQ 47 (.load false 1 (.t 46)),
 oP 48 (.move (.t 5)),
 oP 49 (.move (.t 9)),
 oP 50 (.idxSl 1 (.t 48) (.t 49)),
 oQ 51 (.load false 1 (.t 50)),
 oP 52 (.bin .add (.t 51) (.c (.int .i64 1))),
 oP 53 (.bin .gtr (.t 47) (.t 52)),
 oP 54 (.move (.t 53)),
 oG 55 54 false (.move (.t 7)),
 oG 56 54 false (.move (.t 9)),
 oG 57 54 false (.idxSl 1 (.t 55) (.t 56)),
 ⟨(some 58), .load false 1 (.t 57), (some (54, false)), none, []⟩,
 oG 59 54 false (.move (.t 5)),
 oG 60 54 false (.move (.t 9)),
 oG 61 54 false (.idxSl 1 (.t 59) (.t 60)),
 ⟨(some 62), .load false 1 (.t 61), (some (54, false)), none, []⟩,
 oG 63 54 false (.bin .sub (.t 62) (.c (.int .i64 1))),
 oG 64 54 false (.bin .lss (.t 58) (.t 63)),
 oP 65 (.pick (.t 54) (.c (.bool true)) (.t 64))])
 (.cond (.t 65) (.seq (.region 0 [oP 4 (.move (.c (.bool false)))])
 (.ret))
 (.skip))))
 (.region 0 [oP 42 (.move (.t 9)),
 oP 43 (.bin .add (.t 42) (.c (.int .i64 1))),
 oP 9 (.move (.t 43))]))))))
 (.seq (.region 0 [oQ 66 (.call 1 17 []),
 oP 4 (.move (.t 66))])
 (.ret)))))))⟩
/-- almadraba/almadrabalaw10.SharesFirst -/
def f10 : AFn := ⟨134, [.tmp 6],
 .seq (.region 0 [oQ 3 (.box (.t 0)),
 oP 6 (.move (.c (.bool false)))])
 (.seq (.seq (.region 0 [oQ 17 (.load true 1 (.t 3)),
 oQ 18 (.call 1 45 [(.t 17)]),
 oP 19 (.un .not (.t 18)),
 oP 20 (.move (.t 19)),
 ⟨(some 21), .load true 1 (.t 3), (some (20, false)), none, []⟩,
 oG 22 20 false (.move (.t 1)),
 ⟨(some 23), .call 1 49 [(.t 21), (.t 22)], (some (20, false)), none, []⟩,
 oG 24 20 false (.un .not (.t 23)),
 oP 25 (.pick (.t 20) (.c (.bool true)) (.t 24))])
 (.cond (.t 25) (.seq (.region 0 [oQ 26 (.call 1 17 []),
 oP 6 (.move (.t 26))])
 (.ret))
 (.skip)))
 (.seq (.region 0 [oQ 28 (.load true 1 (.t 3)),
 oP 29 (.move (.t 1)),
 oQ 30 (.call 1 31 [(.t 28), (.t 29)]),
 oP 27 (.move (.t 30)),
 oP 31 (.extract (.t 27) 0),
 oP 32 (.extract (.t 27) 1),
 oP 7 (.move (.t 31)),
 oP 8 (.move (.t 32))])
 (.seq (.seq (.region 0 [oP 33 (.move (.t 8)),
 oP 34 (.bin .neq (.t 33) (.c (.int .i64 0))),
 oP 35 (.move (.t 34)),
 oG 36 35 true (.move (.t 8)),
 oG 37 35 true (.bin .neq (.t 36) (.c (.int .i64 3))),
 oP 38 (.pick (.t 35) (.t 37) (.c (.bool false))),
 oP 39 (.move (.t 38)),
 ⟨(some 40), .load true 1 (.t 3), (some (39, false)), none, []⟩,
 oG 41 39 false (.move (.t 1)),
 ⟨(some 42), .call 1 52 [(.t 40), (.t 41)], (some (39, false)), none, []⟩,
 oG 43 39 false (.move (.t 42)),
 oG 44 43 true (.move (.t 8)),
 oG 45 43 true (.bin .neq (.t 44) (.c (.int .i64 3))),
 oG 46 39 false (.pick (.t 43) (.t 45) (.c (.bool false))),
 oP 47 (.pick (.t 39) (.c (.bool true)) (.t 46)),
 oP 48 (.move (.t 47)),
 oG 49 48 false (.move (.t 8)),
 oG 50 48 false (.bin .eql (.t 49) (.c (.int .i64 0))),
 oG 51 48 false (.move (.t 50)),
 oG 52 51 true (.move (.t 7)),
 ⟨(some 53), .call 1 51 [(.t 52), (.c (.int .i64 0)), (.c (.int .i64 399))], (some (51, true)), none, []⟩,
 oG 54 51 true (.un .not (.t 53)),
 oG 55 48 false (.pick (.t 51) (.t 54) (.c (.bool false))),
 oP 56 (.pick (.t 48) (.c (.bool true)) (.t 55))])
 (.cond (.t 56) (.seq (.region 0 [oP 6 (.move (.c (.bool false)))])
 (.ret))
 (.skip)))
 (.seq (.seq (.region 0 [oP 57 (.move (.t 8)),
 oP 58 (.bin .eql (.t 57) (.c (.int .i64 0)))])
 (.cond (.t 58) (.seq (.region 0 [oQ 60 (.load true 1 (.t 3)),
 oP 61 (.move (.t 7)),
 oQ 62 (.call 1 47 [(.t 60), (.t 61)]),
 oP 59 (.move (.t 62)),
 oP 63 (.extract (.t 59) 0),
 oP 64 (.extract (.t 59) 1),
 oP 9 (.move (.t 63)),
 oP 10 (.move (.t 64))])
 (.seq (.region 0 [oQ 66 (.load true 1 (.t 3)),
 oP 67 (.move (.t 7)),
 oP 68 (.bin .add (.t 67) (.c (.int .i64 1))),
 oQ 69 (.call 1 47 [(.t 66), (.t 68)]),
 oP 65 (.move (.t 69)),
 oP 70 (.extract (.t 65) 0),
 oP 71 (.extract (.t 65) 1),
 oP 11 (.move (.t 70)),
 oP 12 (.move (.t 71))])
 (.seq (.region 0 [oP 72 (.move (.t 10)),
 oP 73 (.un .not (.t 72)),
 oP 74 (.move (.t 73)),
 oG 75 74 false (.move (.t 12)),
 oG 76 74 false (.un .not (.t 75)),
 oP 77 (.pick (.t 74) (.c (.bool true)) (.t 76)),
 oP 78 (.move (.t 77)),
 oG 79 78 false (.move (.t 9)),
 oG 80 78 false (.move (.t 1)),
 oG 81 78 false (.idxSl 1 (.t 79) (.t 80)),
 ⟨(some 82), .load false 1 (.t 81), (some (78, false)), none, []⟩,
 oG 83 78 false (.move (.t 11)),
 oG 84 78 false (.move (.t 1)),
 oG 85 78 false (.idxSl 1 (.t 83) (.t 84)),
 ⟨(some 86), .load false 1 (.t 85), (some (78, false)), none, []⟩,
 oG 87 78 false (.bin .add (.t 86) (.c (.int .i64 1))),
 oG 88 78 false (.bin .neq (.t 82) (.t 87)),
 oP 89 (.pick (.t 78) (.c (.bool true)) (.t 88))])
 (.cond (.t 89) (.seq (.region 0 [oP 6 (.move (.c (.bool false)))])
 (.ret))
 (.skip)))))
 (.skip)))
 (.seq (.seq (.region 0 [oP 90 (.move (.t 2)),
 oQ 91 (.call 1 51 [(.t 90), (.c (.int .i64 0)), (.c (.int .i64 399))]),
 oP 92 (.un .not (.t 91)),
 oP 93 (.move (.t 92)),
 oG 94 93 false (.move (.t 8)),
 oG 95 93 false (.bin .eql (.t 94) (.c (.int .i64 0))),
 oG 96 93 false (.move (.t 95)),
 oG 97 96 true (.move (.t 2)),
 oG 98 96 true (.move (.t 7)),
 oG 99 96 true (.bin .geq (.t 97) (.t 98)),
 oG 100 93 false (.pick (.t 96) (.t 99) (.c (.bool false))),
 oP 101 (.pick (.t 93) (.c (.bool true)) (.t 100))])
 (.cond (.t 101) (.seq (.region 0 [oQ 102 (.call 1 17 []),
 oP 6 (.move (.t 102))])
 (.ret))
 (.skip)))
 (.seq (.region 0 [oQ 104 (.load true 1 (.t 3)),
 oP 105 (.move (.t 2)),
 oQ 106 (.call 1 47 [(.t 104), (.t 105)]),
 oP 103 (.move (.t 106)),
 oP 107 (.extract (.t 103) 0),
 oP 108 (.extract (.t 103) 1),
 oP 13 (.move (.t 107)),
 oP 14 (.move (.t 108))])
 (.seq (.region 0 [oQ 110 (.load true 1 (.t 3)),
 oP 111 (.move (.t 2)),
 oP 112 (.bin .add (.t 111) (.c (.int .i64 1))),
 oQ 113 (.call 1 47 [(.t 110), (.t 112)]),
 oP 109 (.move (.t 113)),
 oP 114 (.extract (.t 109) 0),
 oP 115 (.extract (.t 109) 1),
 oP 15 (.move (.t 114)),
 oP 16 (.move (.t 115))])
 (.seq (.region 0 [oP 116 (.move (.t 14)),
 oP 117 (.move (.t 116)),
 oG 118 117 true (.move (.t 16)),
 oP 119 (.pick (.t 117) (.t 118) (.c (.bool false))),
 oP 120 (.move (.t 119)),
 oG 121 120 true (.move (.t 13)),
 oG 122 120 true (.move (.t 1)),
 oG 123 120 true (.idxSl 1 (.t 121) (.t 122)),
 ⟨(some 124), .load false 1 (.t 123), (some (120, true)), none, []⟩,
 oG 125 120 true (.move (.t 15)),
 oG 126 120 true (.move (.t 1)),
 oG 127 120 true (.idxSl 1 (.t 125) (.t 126)),
 ⟨(some 128), .load false 1 (.t 127), (some (120, true)), none, []⟩,
 oG 129 120 true (.bin .leq (.t 124) (.t 128)),
 oP 130 (.pick (.t 120) (.t 129) (.c (.bool false))),
 oP 131 (.move (.t 130)),
 ⟨(some 132), .call 1 17 [], (some (131, true)), none, []⟩,
 oP 133 (.pick (.t 131) (.t 132) (.c (.bool false))),
 oP 6 (.move (.t 133))])
 (.ret)))))))))⟩
/-- almadraba/almadrabalaw10.SharesPays -/
def f11 : AFn := ⟨238, [.tmp 6],
 .seq (.region 0 [oQ 3 (.box (.t 0)),
 oP 6 (.move (.c (.bool false)))])
 (.seq (.seq (.region 0 [oQ 25 (.load true 1 (.t 3)),
 oQ 26 (.call 1 45 [(.t 25)]),
 oP 27 (.un .not (.t 26)),
 oP 28 (.move (.t 27)),
 ⟨(some 29), .load true 1 (.t 3), (some (28, false)), none, []⟩,
 oG 30 28 false (.move (.t 1)),
 ⟨(some 31), .call 1 49 [(.t 29), (.t 30)], (some (28, false)), none, []⟩,
 oG 32 28 false (.un .not (.t 31)),
 oP 33 (.pick (.t 28) (.c (.bool true)) (.t 32)),
 oP 34 (.move (.t 33)),
 oG 35 34 false (.move (.t 1)),
 oG 36 34 false (.bin .eql (.t 35) (.c (.int .i64 0))),
 oP 37 (.pick (.t 34) (.c (.bool true)) (.t 36)),
 oP 38 (.move (.t 37)),
 oG 39 38 false (.move (.t 2)),
 oG 40 38 false (.lenS (.t 39)),
 oG 41 38 false (.bin .geq (.t 40) (.c (.int .i64 6))),
 oP 42 (.pick (.t 38) (.c (.bool true)) (.t 41)),
 oP 43 (.move (.t 42)),
 ⟨(some 44), .load true 1 (.t 3), (some (43, false)), none, []⟩,
 oG 45 43 false (.move (.t 2)),
 ⟨(some 46), .call 1 53 [(.t 44), (.t 45)], (some (43, false)), none, []⟩,
 oG 47 43 false (.un .not (.t 46)),
 oP 48 (.pick (.t 43) (.c (.bool true)) (.t 47))])
 (.cond (.t 48) (.seq (.region 0 [oQ 49 (.call 1 17 []),
 oP 6 (.move (.t 49))])
 (.ret))
 (.skip)))
 (.seq (.region 0 [oP 50 (.move (.t 2)),
 oQ 51 (.call 2 37 [(.t 50)]),
 oP 7 (.move (.t 51))])
 (.seq (.seq (.region 0 [oP 8 (.move (.c (.int .i64 0)))])
 (.block 0 (.loop (.seq (.seq (.region 0 [oP 52 (.move (.t 8)),
 oP 53 (.move (.t 7)),
 oP 54 (.lenS (.t 53)),
 oP 55 (.bin .lss (.t 52) (.t 54))])
 (.cond (.t 55) (.skip)
 (.exit 0)))
 (.seq (.block 1 (.seq (.region 0 [oQ 59 (.load true 1 (.t 3)),
 oP 60 (.move (.t 7)),
 oP 61 (.move (.t 8)),
 oP 62 (.idxSl 3 (.t 60) (.t 61)),
 oP 63 (.fieldAddr 0 (.t 62)),
 oQ 64 (.load false 1 (.t 63)),
 oQ 65 (.call 1 47 [(.t 59), (.t 64)]),
 oP 58 (.move (.t 65)),
 oP 66 (.extract (.t 58) 0),
 oP 67 (.extract (.t 58) 1),
 oP 9 (.move (.t 66)),
 oP 10 (.move (.t 67))])
 (.seq (.seq (.region 0 [oP 68 (.move (.t 10)),
 oP 69 (.un .not (.t 68))])
 (.cond (.t 69) (.seq (.region 0 [oP 6 (.move (.c (.bool false)))])
 (.ret))
 (.skip)))
 (.seq (.region 0 [oP 70 (.move (.t 7)),
 oP 71 (.move (.t 8)),
 oP 72 (.idxSl 3 (.t 70) (.t 71)),
 oQ 73 (.load true 3 (.t 72)),
 oQ 11 (.alloc [.int .i64 0, .int .i64 0, .int .i64 0]),
 ⟨none, .store 3 (.t 11) (.t 73), none, none, []⟩])
 (.seq (.region 0 [oP 74 (.move (.t 9)),
 oP 75 (.fieldAddr 1 (.t 11)),
 oQ 76 (.load false 1 (.t 75)),
 oP 77 (.idxSl 1 (.t 74) (.t 76)),
 oQ 78 (.load false 1 (.t 77)),
 oP 79 (.fieldAddr 2 (.t 11)),
 ⟨none, .store 1 (.t 79) (.t 78), none, none, []⟩])
 (.region 0 [oP 80 (.move (.t 7)),
 oP 81 (.move (.t 8)),
 oQ 82 (.load true 3 (.t 11)),
 oP 83 (.idxSl 3 (.t 80) (.t 81)),
 ⟨none, .store 3 (.t 83) (.t 82), none, none, []⟩]))))))
 (.region 0 [oP 56 (.move (.t 8)),
 oP 57 (.bin .add (.t 56) (.c (.int .i64 1))),
 oP 8 (.move (.t 57))]))))))
 (.seq (.region 0 [oQ 85 (.load true 1 (.t 3)),
 oP 86 (.move (.t 7)),
 oQ 87 (.call 2 37 [(.t 86)]),
 oQ 88 (.call 3 38 [(.t 85), (.t 87)]),
 oP 84 (.move (.t 88)),
 oP 89 (.extract (.t 84) 0),
 oP 90 (.extract (.t 84) 1),
 oP 12 (.move (.t 89)),
 oP 13 (.move (.t 90))])
 (.seq (.region 0 [oQ 92 (.load true 1 (.t 3)),
 oP 93 (.move (.t 1)),
 oP 94 (.move (.t 7)),
 oQ 95 (.call 2 37 [(.t 94)]),
 oQ 96 (.call 3 40 [(.t 92), (.t 93), (.t 95)]),
 oP 91 (.move (.t 96)),
 oP 97 (.extract (.t 91) 0),
 oP 98 (.extract (.t 91) 1),
 oP 14 (.move (.t 97)),
 oP 15 (.move (.t 98))])
 (.seq (.seq (.region 0 [oP 99 (.move (.t 13)),
 oP 100 (.bin .neq (.t 99) (.c (.int .i64 0))),
 oP 101 (.move (.t 100)),
 oG 102 101 false (.move (.t 12)),
 oG 103 101 false (.lenS (.t 102)),
 oG 104 101 false (.bin .gtr (.t 103) (.c (.int .i64 0))),
 oP 105 (.pick (.t 101) (.c (.bool true)) (.t 104)),
 oP 106 (.move (.t 105)),
 oG 107 106 false (.move (.t 15)),
 oG 108 106 false (.bin .neq (.t 107) (.c (.int .i64 0))),
 oP 109 (.pick (.t 106) (.c (.bool true)) (.t 108)),
 oP 110 (.move (.t 109)),
 oG 111 110 false (.move (.t 14)),
 ⟨(some 112), .call 1 54 [(.t 111), (.c (.int .i64 0)), (.c (.int .i64 9))], (some (110, false)), none, []⟩,
 oG 113 110 false (.un .not (.t 112)),
 oP 114 (.pick (.t 110) (.c (.bool true)) (.t 113)),
 oP 115 (.move (.t 114)),
 oG 116 115 false (.move (.t 14)),
 oG 117 115 false (.fieldAddr 0 (.t 3)),
 ⟨(some 118), .load false 1 (.t 117), (some (115, false)), none, []⟩,
 oG 119 115 false (.move (.t 1)),
 oG 120 115 false (.idxSl 3 (.t 118) (.t 119)),
 oG 121 115 false (.fieldAddr 1 (.t 120)),
 ⟨(some 122), .load false 1 (.t 121), (some (115, false)), none, []⟩,
 ⟨(some 123), .call 1 55 [(.t 116), (.t 122)], (some (115, false)), none, []⟩,
 oG 124 115 false (.un .not (.t 123)),
 oP 125 (.pick (.t 115) (.c (.bool true)) (.t 124))])
 (.cond (.t 125) (.seq (.region 0 [oP 6 (.move (.c (.bool false)))])
 (.ret))
 (.skip)))
 (.seq (.seq (.region 0 [oP 126 (.move (.t 7)),
 oP 127 (.lenS (.t 126)),
 oP 128 (.bin .gtr (.t 127) (.c (.int .i64 0)))])
 (.cond (.t 128) (.seq (.region 0 [oQ 130 (.load true 1 (.t 3)),
 oP 131 (.move (.t 1)),
 oP 132 (.move (.t 7)),
 oP 133 (.slice 3 (.t 132) (some (.c (.int .i64 1))) none),
 oQ 134 (.call 2 37 [(.t 133)]),
 oQ 135 (.call 3 40 [(.t 130), (.t 131), (.t 134)]),
 oP 129 (.move (.t 135)),
 oP 136 (.extract (.t 129) 0),
 oP 137 (.extract (.t 129) 1),
 oP 16 (.move (.t 136)),
 oP 17 (.move (.t 137))])
 (.seq (.seq (.region 0 [oP 138 (.move (.t 17)),
 oP 139 (.bin .neq (.t 138) (.c (.int .i64 0))),
 oP 140 (.move (.t 139)),
 oG 141 140 false (.move (.t 16)),
 oG 142 140 false (.lenS (.t 141)),
 oG 143 140 false (.move (.t 14)),
 oG 144 140 false (.lenS (.t 143)),
 oG 145 140 false (.bin .lss (.t 142) (.t 144)),
 oP 146 (.pick (.t 140) (.c (.bool true)) (.t 145)),
 oP 147 (.move (.t 146)),
 oG 148 147 false (.move (.t 16)),
 oG 149 147 false (.lenS (.t 148)),
 oG 150 147 false (.bin .gtr (.t 149) (.c (.int .i64 10))),
 oP 151 (.pick (.t 147) (.c (.bool true)) (.t 150))])
 (.cond (.t 151) (.seq (.region 0 [oP 6 (.move (.c (.bool false)))])
 (.ret))
 (.skip)))
 (.seq (.region 0 [oP 18 (.move (.c (.int .i64 0)))])
 (.block 2 (.loop (.seq (.seq (.region 0 [oP 152 (.move (.t 18)),
 oP 153 (.move (.t 14)),
 oP 154 (.lenS (.t 153)),
 oP 155 (.bin .lss (.t 152) (.t 154))])
 (.cond (.t 155) (.skip)
 (.exit 2)))
 (.seq (.block 3 (.seq (.region 0 [oP 158 (.move (.t 16)),
 oP 159 (.move (.t 14)),
 oP 160 (.move (.t 18)),
 oP 161 (.idxSl 1 (.t 159) (.t 160)),
 oQ 162 (.load false 1 (.t 161)),
 oQ 163 (.call 1 55 [(.t 158), (.t 162)]),
 oP 164 (.un .not (.t 163))])
 (.cond (.t 164) (.seq (.region 0 [oP 6 (.move (.c (.bool false)))])
 (.ret))
 (.skip))))
 (.region 0 [oP 156 (.move (.t 18)),
 oP 157 (.bin .add (.t 156) (.c (.int .i64 1))),
 oP 18 (.move (.t 157))]))))))))
 (.skip)))
 (.seq (.region 0 [oQ 166 (.load true 1 (.t 3)),
 oP 167 (.move (.t 1)),
 oP 168 (.move (.t 7)),
 oQ 169 (.call 2 37 [(.t 168)]),
 oQ 170 (.call 1 42 [(.t 166), (.t 167), (.t 169)]),
 oP 165 (.move (.t 170)),
 oP 171 (.extract (.t 165) 0),
 oP 172 (.extract (.t 165) 1),
 oP 19 (.move (.t 171)),
 oP 20 (.move (.t 172))])
 (.seq (.seq (.region 0 [oP 173 (.move (.t 20)),
 oP 174 (.bin .neq (.t 173) (.c (.int .i64 0)))])
 (.cond (.t 174) (.seq (.region 0 [oP 175 (.move (.t 20)),
 oP 176 (.bin .eql (.t 175) (.c (.int .i64 3))),
 oP 177 (.move (.t 176)),
 oG 178 177 true (.move (.t 14)),
 oG 179 177 true (.lenS (.t 178)),
 oG 180 177 true (.bin .gtr (.t 179) (.c (.int .i64 1))),
 oP 181 (.pick (.t 177) (.t 180) (.c (.bool false))),
 oP 182 (.move (.t 181)),
 ⟨(some 183), .call 1 17 [], (some (182, true)), none, []⟩,
 oP 184 (.pick (.t 182) (.t 183) (.c (.bool false))),
 oP 6 (.move (.t 184))])
 (.ret))
 (.skip)))
 (.seq (.seq (.region 0 [oP 185 (.move (.t 19)),
 oQ 186 (.call 1 46 [(.t 185)]),
 oP 187 (.un .not (.t 186)),
 oP 188 (.move (.t 187)),
 oG 189 188 false (.move (.t 14)),
 oG 190 188 false (.lenS (.t 189)),
 oG 191 188 false (.bin .eql (.t 190) (.c (.int .i64 1))),
 oG 192 188 false (.move (.t 191)),
 oG 193 192 true (.move (.t 19)),
 oG 194 192 true (.bin .neq (.t 193) (.c (.int .i64 0))),
 oG 195 188 false (.pick (.t 192) (.t 194) (.c (.bool false))),
 oP 196 (.pick (.t 188) (.c (.bool true)) (.t 195))])
 (.cond (.t 196) (.seq (.region 0 [oP 6 (.move (.c (.bool false)))])
 (.ret))
 (.skip)))
 (.seq (.region 0 [oQ 198 (.load true 1 (.t 3)),
 oP 199 (.move (.t 19)),
 oQ 200 (.call 1 47 [(.t 198), (.t 199)]),
 oP 197 (.move (.t 200)),
 oP 201 (.extract (.t 197) 0),
 oP 202 (.extract (.t 197) 1),
 oP 21 (.move (.t 201)),
 oP 22 (.move (.t 202))])
 (.seq (.seq (.region 0 [oP 203 (.move (.t 22)),
 oP 204 (.un .not (.t 203))])
 (.cond (.t 204) (.seq (.region 0 [oP 6 (.move (.c (.bool false)))])
 (.ret))
 (.skip)))
 (.seq (.region 1 [⟨(some 206), .load true 1 (.t 3), none, none, [0]⟩,
 oP 207 (.move (.t 1)),
 oP 208 (.move (.t 7)),
 oP 210 (.move (.t 19)),
 oP 211 (.move (.t 1)),
 oP 212 (.move (.t 21)),
 oP 213 (.move (.t 1)),
 oP 214 (.idxSl 1 (.t 212) (.t 213)),
 ⟨(some 215), .load false 1 (.t 214), none, none, [0]⟩,
 oP 216 (.build [.int .i64 0, .int .i64 0, .int .i64 0] [(0, 1, (.t 210)), (1, 1, (.t 211)), (2, 1, (.t 215))]),
 oQ 217 (.litS 3 1 [.int .i64 0, .int .i64 0, .int .i64 0] [(0, (.t 216))]),
 ⟨(some 209), .call 2 37 [(.t 208)], none, none, [0]⟩,
 ⟨(some 218), .append true 3 24 (.t 209) (.t 217), none, (some 0), []⟩,
 oQ 219 (.call 3 40 [(.t 206), (.t 207), (.t 218)]),
 oP 205 (.move (.t 219)),
 oP 220 (.extract (.t 205) 0),
 oP 221 (.extract (.t 205) 1),
 oP 23 (.move (.t 220)),
 oP 24 (.move (.t 221))])
 (.seq (.region 0 [oP 222 (.move (.t 24)),
 oP 223 (.bin .eql (.t 222) (.c (.int .i64 0))),
 oP 224 (.move (.t 223)),
 oG 225 224 true (.move (.t 23)),
 oG 226 224 true (.fieldAddr 0 (.t 3)),
 ⟨(some 227), .load false 1 (.t 226), (some (224, true)), none, []⟩,
 oG 228 224 true (.move (.t 1)),
 oG 229 224 true (.idxSl 3 (.t 227) (.t 228)),
 oG 230 224 true (.fieldAddr 1 (.t 229)),
 ⟨(some 231), .load false 1 (.t 230), (some (224, true)), none, []⟩,
 ⟨(some 232), .litS 1 1 [.int .i64 0] [(0, (.t 231))], (some (224, true)), none, []⟩,
 ⟨(some 233), .call 1 27 [(.t 225), (.t 232)], (some (224, true)), none, []⟩,
 oP 234 (.pick (.t 224) (.t 233) (.c (.bool false))),
 oP 235 (.move (.t 234)),
 ⟨(some 236), .call 1 17 [], (some (235, true)), none, []⟩,
 oP 237 (.pick (.t 235) (.t 236) (.c (.bool false))),
 oP 6 (.move (.t 237))])
 (.ret)))))))))))))))⟩
/-- almadraba/almadrabalaw10.SharesTimes -/
def f12 : AFn := ⟨178, [.tmp 4],
 .seq (.region 0 [oQ 2 (.box (.t 0)),
 oQ 3 (.box (.t 1)),
 oP 4 (.move (.c (.bool false)))])
 (.seq (.seq (.region 0 [oQ 24 (.load true 1 (.t 2)),
 oQ 25 (.call 1 45 [(.t 24)]),
 oP 26 (.un .not (.t 25)),
 oP 27 (.move (.t 26)),
 oG 28 27 false (.fieldAddr 0 (.t 3)),
 ⟨(some 29), .load false 1 (.t 28), (some (27, false)), none, []⟩,
 ⟨(some 30), .call 1 51 [(.t 29), (.c (.int .i64 1)), (.c (.int .i64 9))], (some (27, false)), none, []⟩,
 oG 31 27 false (.un .not (.t 30)),
 oP 32 (.pick (.t 27) (.c (.bool true)) (.t 31)),
 oP 33 (.move (.t 32)),
 ⟨(some 34), .load true 1 (.t 2), (some (33, false)), none, []⟩,
 oG 35 33 false (.fieldAddr 1 (.t 3)),
 ⟨(some 36), .load false 1 (.t 35), (some (33, false)), none, []⟩,
 ⟨(some 37), .call 1 49 [(.t 34), (.t 36)], (some (33, false)), none, []⟩,
 oG 38 33 false (.un .not (.t 37)),
 oP 39 (.pick (.t 33) (.c (.bool true)) (.t 38)),
 oP 40 (.move (.t 39)),
 oG 41 40 false (.fieldAddr 2 (.t 3)),
 ⟨(some 42), .load false 1 (.t 41), (some (40, false)), none, []⟩,
 ⟨(some 43), .call 1 46 [(.t 42)], (some (40, false)), none, []⟩,
 oG 44 40 false (.un .not (.t 43)),
 oP 45 (.pick (.t 40) (.c (.bool true)) (.t 44))])
 (.cond (.t 45) (.seq (.region 0 [oQ 46 (.call 1 17 []),
 oP 4 (.move (.t 46))])
 (.ret))
 (.skip)))
 (.seq (.region 0 [oQ 47 (.load true 1 (.t 2)),
 oQ 48 (.call 2 18 [(.t 47)]),
 oQ 5 (.alloc [.nils]),
 ⟨none, .store 1 (.t 5) (.t 48), none, none, []⟩])
 (.seq (.seq (.region 0 [oP 6 (.move (.c (.int .i64 0)))])
 (.block 0 (.loop (.seq (.seq (.region 0 [oP 49 (.move (.t 6)),
 oP 50 (.fieldAddr 0 (.t 2)),
 oQ 51 (.load false 1 (.t 50)),
 oP 52 (.lenS (.t 51)),
 oP 53 (.bin .lss (.t 49) (.t 52))])
 (.cond (.t 53) (.skip)
 (.exit 0)))
 (.seq (.block 1 (.seq (.region 0 [oP 56 (.fieldAddr 0 (.t 5)),
 oQ 57 (.load false 1 (.t 56)),
 oP 58 (.move (.t 6)),
 oP 59 (.idxSl 3 (.t 57) (.t 58)),
 oQ 60 (.load true 3 (.t 59)),
 oQ 7 (.alloc [.int .i64 0, .int .i64 0, .int .i64 0]),
 ⟨none, .store 3 (.t 7) (.t 60), none, none, []⟩])
 (.seq (.region 0 [oP 61 (.fieldAddr 1 (.t 7)),
 oQ 62 (.load false 1 (.t 61)),
 oP 63 (.fieldAddr 0 (.t 3)),
 oQ 64 (.load false 1 (.t 63)),
 oP 65 (.bin .mul (.t 62) (.t 64)),
 oP 66 (.fieldAddr 1 (.t 7)),
 ⟨none, .store 1 (.t 66) (.t 65), none, none, []⟩])
 (.region 0 [oP 67 (.fieldAddr 0 (.t 5)),
 oQ 68 (.load false 1 (.t 67)),
 oP 69 (.move (.t 6)),
 oQ 70 (.load true 3 (.t 7)),
 oP 71 (.idxSl 3 (.t 68) (.t 69)),
 ⟨none, .store 3 (.t 71) (.t 70), none, none, []⟩]))))
 (.region 0 [oP 54 (.move (.t 6)),
 oP 55 (.bin .add (.t 54) (.c (.int .i64 1))),
 oP 6 (.move (.t 55))]))))))
 (.seq (.seq (.region 0 [oQ 72 (.load true 1 (.t 5)),
 oQ 73 (.call 1 45 [(.t 72)]),
 oP 74 (.un .not (.t 73))])
 (.cond (.t 74) (.seq (.region 0 [oQ 75 (.call 1 17 []),
 oP 4 (.move (.t 75))])
 (.ret))
 (.skip)))
 (.seq (.region 0 [oQ 77 (.load true 1 (.t 2)),
 oP 78 (.fieldAddr 2 (.t 3)),
 oQ 79 (.load false 1 (.t 78)),
 oQ 80 (.call 3 47 [(.t 77), (.t 79)]),
 oP 76 (.move (.t 80)),
 oP 81 (.extract (.t 76) 0),
 oP 82 (.extract (.t 76) 1),
 oP 8 (.move (.t 81)),
 oP 9 (.move (.t 82))])
 (.seq (.region 0 [oQ 84 (.load true 1 (.t 5)),
 oP 85 (.fieldAddr 2 (.t 3)),
 oQ 86 (.load false 1 (.t 85)),
 oQ 87 (.call 3 47 [(.t 84), (.t 86)]),
 oP 83 (.move (.t 87)),
 oP 88 (.extract (.t 83) 0),
 oP 89 (.extract (.t 83) 1),
 oP 10 (.move (.t 88)),
 oP 11 (.move (.t 89))])
 (.seq (.region 0 [oQ 91 (.load true 1 (.t 2)),
 oP 92 (.fieldAddr 1 (.t 3)),
 oQ 93 (.load false 1 (.t 92)),
 oP 94 (.fieldAddr 2 (.t 3)),
 oQ 95 (.load false 1 (.t 94)),
 oQ 96 (.call 1 29 [(.t 91), (.t 93), (.t 95)]),
 oP 90 (.move (.t 96)),
 oP 97 (.extract (.t 90) 0),
 oP 98 (.extract (.t 90) 1),
 oP 12 (.move (.t 97)),
 oP 13 (.move (.t 98))])
 (.seq (.region 0 [oQ 100 (.load true 1 (.t 5)),
 oP 101 (.fieldAddr 1 (.t 3)),
 oQ 102 (.load false 1 (.t 101)),
 oP 103 (.fieldAddr 2 (.t 3)),
 oQ 104 (.load false 1 (.t 103)),
 oQ 105 (.call 1 29 [(.t 100), (.t 102), (.t 104)]),
 oP 99 (.move (.t 105)),
 oP 106 (.extract (.t 99) 0),
 oP 107 (.extract (.t 99) 1),
 oP 14 (.move (.t 106)),
 oP 15 (.move (.t 107))])
 (.seq (.region 0 [oQ 109 (.load true 1 (.t 2)),
 oP 110 (.fieldAddr 1 (.t 3)),
 oQ 111 (.load false 1 (.t 110)),
 oQ 112 (.call 1 31 [(.t 109), (.t 111)]),
 oP 108 (.move (.t 112)),
 oP 113 (.extract (.t 108) 0),
 oP 114 (.extract (.t 108) 1),
 oP 16 (.move (.t 113)),
 oP 17 (.move (.t 114))])
 (.seq (.region 0 [oQ 116 (.load true 1 (.t 5)),
 oP 117 (.fieldAddr 1 (.t 3)),
 oQ 118 (.load false 1 (.t 117)),
 oQ 119 (.call 1 31 [(.t 116), (.t 118)]),
 oP 115 (.move (.t 119)),
 oP 120 (.extract (.t 115) 0),
 oP 121 (.extract (.t 115) 1),
 oP 18 (.move (.t 120)),
 oP 19 (.move (.t 121))])
 (.seq (.region 0 [oQ 123 (.load true 1 (.t 2)),
 oP 124 (.fieldAddr 1 (.t 3)),
 oQ 125 (.load false 1 (.t 124)),
 oQ 126 (.call 1 33 [(.t 123), (.t 125)]),
 oP 122 (.move (.t 126)),
 oP 127 (.extract (.t 122) 0),
 oP 128 (.extract (.t 122) 1),
 oQ 20 (.alloc [.int .i64 0, .int .i64 0]),
 ⟨none, .store 2 (.t 20) (.t 127), none, none, []⟩,
 oP 21 (.move (.t 128))])
 (.seq (.region 0 [oQ 130 (.load true 1 (.t 5)),
 oP 131 (.fieldAddr 1 (.t 3)),
 oQ 132 (.load false 1 (.t 131)),
 oQ 133 (.call 1 33 [(.t 130), (.t 132)]),
 oP 129 (.move (.t 133)),
 oP 134 (.extract (.t 129) 0),
 oP 135 (.extract (.t 129) 1),
 oQ 22 (.alloc [.int .i64 0, .int .i64 0]),
 ⟨none, .store 2 (.t 22) (.t 134), none, none, []⟩,
 oP 23 (.move (.t 135))])
 (.seq (.region 0 [oP 136 (.move (.t 9)),
 oP 137 (.move (.t 136)),
 oG 138 137 true (.move (.t 11)),
 oP 139 (.pick (.t 137) (.t 138) (.c (.bool false))),
 oP 140 (.move (.t 139)),
 oG 141 140 true (.move (.t 8)),
 oG 142 140 true (.move (.t 10)),
 ⟨(some 143), .call 1 27 [(.t 141), (.t 142)], (some (140, true)), none, []⟩,
 oP 144 (.pick (.t 140) (.t 143) (.c (.bool false))),
 oP 145 (.move (.t 144)),
 oG 146 145 true (.move (.t 12)),
 oG 147 145 true (.move (.t 14)),
 oG 148 145 true (.bin .eql (.t 146) (.t 147)),
 oP 149 (.pick (.t 145) (.t 148) (.c (.bool false))),
 oP 150 (.move (.t 149)),
 oG 151 150 true (.move (.t 13)),
 oG 152 150 true (.move (.t 15)),
 oG 153 150 true (.bin .eql (.t 151) (.t 152)),
 oP 154 (.pick (.t 150) (.t 153) (.c (.bool false))),
 oP 155 (.move (.t 154)),
 oG 156 155 true (.move (.t 16)),
 oG 157 155 true (.move (.t 18)),
 oG 158 155 true (.bin .eql (.t 156) (.t 157)),
 oP 159 (.pick (.t 155) (.t 158) (.c (.bool false))),
 oP 160 (.move (.t 159)),
 oG 161 160 true (.move (.t 17)),
 oG 162 160 true (.move (.t 19)),
 oG 163 160 true (.bin .eql (.t 161) (.t 162)),
 oP 164 (.pick (.t 160) (.t 163) (.c (.bool false))),
 oP 165 (.move (.t 164)),
 ⟨(some 166), .load true 2 (.t 20), (some (165, true)), none, []⟩,
 ⟨(some 167), .load true 2 (.t 22), (some (165, true)), none, []⟩,
 oG 168 165 true (.eqS false [true, true] (.t 166) (.t 167)),
 oP 169 (.pick (.t 165) (.t 168) (.c (.bool false))),
 oP 170 (.move (.t 169)),
 oG 171 170 true (.move (.t 21)),
 oG 172 170 true (.move (.t 23)),
 oG 173 170 true (.bin .eql (.t 171) (.t 172)),
 oP 174 (.pick (.t 170) (.t 173) (.c (.bool false))),
 oP 175 (.move (.t 174)),
 ⟨(some 176), .call 1 17 [], (some (175, true)), none, []⟩,
 oP 177 (.pick (.t 175) (.t 176) (.c (.bool false))),
 oP 4 (.move (.t 177))])
 (.ret))))))))))))))⟩
/-- almadraba/almadrabalaw10.SharesLeast -/
def f13 : AFn := ⟨155, [.tmp 6],
 .seq (.region 0 [oQ 3 (.box (.t 0)),
 oQ 5 (.box (.t 2)),
 oP 6 (.move (.c (.bool false)))])
 (.seq (.seq (.region 0 [oQ 16 (.load true 1 (.t 3)),
 oQ 17 (.call 1 45 [(.t 16)]),
 oP 18 (.un .not (.t 17)),
 oP 19 (.move (.t 18)),
 oG 20 19 false (.move (.t 1)),
 oG 21 19 false (.lenS (.t 20)),
 oG 22 19 false (.bin .gtr (.t 21) (.c (.int .i64 40))),
 oP 23 (.pick (.t 19) (.c (.bool true)) (.t 22)),
 oP 24 (.move (.t 23)),
 ⟨(some 25), .load true 1 (.t 3), (some (24, false)), none, []⟩,
 oG 26 24 false (.move (.t 1)),
 ⟨(some 27), .call 1 56 [(.t 25), (.t 26)], (some (24, false)), none, []⟩,
 oG 28 24 false (.un .not (.t 27)),
 oP 29 (.pick (.t 24) (.c (.bool true)) (.t 28))])
 (.cond (.t 29) (.seq (.region 0 [oQ 30 (.call 1 17 []),
 oP 6 (.move (.t 30))])
 (.ret))
 (.skip)))
 (.seq (.region 2 [⟨(some 32), .load true 1 (.t 3), none, none, [0, 1]⟩,
 ⟨(some 33), .buildSlice 1 0 [.int .i64 0] [], none, (some 0), []⟩,
 oP 34 (.move (.t 1)),
 ⟨(some 35), .append true 1 8 (.t 33) (.t 34), none, (some 1), []⟩,
 oQ 36 (.call 1 35 [(.t 32), (.t 35)]),
 oP 31 (.move (.t 36)),
 oP 37 (.extract (.t 31) 0),
 oP 38 (.extract (.t 31) 1),
 oP 7 (.move (.t 37)),
 oP 8 (.move (.t 38))])
 (.seq (.seq (.region 0 [oP 39 (.move (.t 8)),
 oP 40 (.bin .neq (.t 39) (.c (.int .i64 0))),
 oP 41 (.move (.t 40)),
 oG 42 41 true (.move (.t 8)),
 oG 43 41 true (.bin .neq (.t 42) (.c (.int .i64 3))),
 oP 44 (.pick (.t 41) (.t 43) (.c (.bool false))),
 oP 45 (.move (.t 44)),
 oG 46 45 false (.move (.t 8)),
 oG 47 45 false (.bin .eql (.t 46) (.c (.int .i64 0))),
 oG 48 45 false (.move (.t 47)),
 oG 49 48 true (.move (.t 7)),
 ⟨(some 50), .call 1 46 [(.t 49)], (some (48, true)), none, []⟩,
 oG 51 48 true (.un .not (.t 50)),
 oG 52 45 false (.pick (.t 48) (.t 51) (.c (.bool false))),
 oP 53 (.pick (.t 45) (.c (.bool true)) (.t 52))])
 (.cond (.t 53) (.seq (.region 0 [oP 6 (.move (.c (.bool false)))])
 (.ret))
 (.skip)))
 (.seq (.seq (.region 0 [oP 54 (.fieldAddr 2 (.t 5)),
 oQ 55 (.load false 1 (.t 54)),
 oQ 56 (.call 1 46 [(.t 55)]),
 oP 57 (.move (.t 56)),
 oG 58 57 true (.move (.t 8)),
 oG 59 57 true (.bin .neq (.t 58) (.c (.int .i64 0))),
 oG 60 57 true (.move (.t 59)),
 oG 61 60 false (.fieldAddr 2 (.t 5)),
 ⟨(some 62), .load false 1 (.t 61), (some (60, false)), none, []⟩,
 oG 63 60 false (.move (.t 7)),
 oG 64 60 false (.bin .leq (.t 62) (.t 63)),
 oG 65 57 true (.pick (.t 60) (.c (.bool true)) (.t 64)),
 oP 66 (.pick (.t 57) (.t 65) (.c (.bool false)))])
 (.cond (.t 66) (.seq (.region 0 [oQ 68 (.load true 1 (.t 3)),
 oP 69 (.fieldAddr 2 (.t 5)),
 oQ 70 (.load false 1 (.t 69)),
 oQ 71 (.call 1 23 [(.t 68), (.t 70)]),
 oP 67 (.move (.t 71)),
 oP 72 (.extract (.t 67) 0),
 oP 73 (.extract (.t 67) 1),
 oP 9 (.move (.t 72)),
 oP 10 (.move (.t 73))])
 (.seq (.seq (.region 0 [oP 74 (.move (.t 10)),
 oP 75 (.bin .neq (.t 74) (.c (.int .i64 0))),
 oP 76 (.move (.t 75)),
 oG 77 76 false (.move (.t 9)),
 oG 78 76 false (.lenS (.t 77)),
 oG 79 76 false (.move (.t 1)),
 oG 80 76 false (.lenS (.t 79)),
 oG 81 76 false (.bin .neq (.t 78) (.t 80)),
 oP 82 (.pick (.t 76) (.c (.bool true)) (.t 81))])
 (.cond (.t 82) (.seq (.region 0 [oP 6 (.move (.c (.bool false)))])
 (.ret))
 (.skip)))
 (.seq (.region 0 [oP 11 (.move (.c (.bool true)))])
 (.seq (.seq (.region 0 [oP 12 (.move (.c (.int .i64 0)))])
 (.block 0 (.loop (.seq (.seq (.region 0 [oP 83 (.move (.t 12)),
 oP 84 (.move (.t 9)),
 oP 85 (.lenS (.t 84)),
 oP 86 (.bin .lss (.t 83) (.t 85))])
 (.cond (.t 86) (.skip)
 (.exit 0)))
 (.seq (.block 1 (.region 0 [oP 89 (.move (.t 11)),
 oP 90 (.move (.t 89)),
 oG 91 90 true (.move (.t 9)),
 oG 92 90 true (.move (.t 12)),
 oG 93 90 true (.idxSl 1 (.t 91) (.t 92)),
 ⟨(some 94), .load false 1 (.t 93), (some (90, true)), none, []⟩,
 oG 95 90 true (.move (.t 1)),
 oG 96 90 true (.move (.t 12)),
 oG 97 90 true (.idxSl 1 (.t 95) (.t 96)),
 ⟨(some 98), .load false 1 (.t 97), (some (90, true)), none, []⟩,
 oG 99 90 true (.bin .geq (.t 94) (.t 98)),
 oP 100 (.pick (.t 90) (.t 99) (.c (.bool false))),
 oP 11 (.move (.t 100))]))
 (.region 0 [oP 87 (.move (.t 12)),
 oP 88 (.bin .add (.t 87) (.c (.int .i64 1))),
 oP 12 (.move (.t 88))]))))))
 (.seq (.region 0 [oP 101 (.move (.t 11)),
 oP 102 (.move (.t 8)),
 oP 103 (.bin .eql (.t 102) (.c (.int .i64 0))),
 oP 104 (.move (.t 103)),
 oG 105 104 true (.fieldAddr 2 (.t 5)),
 ⟨(some 106), .load false 1 (.t 105), (some (104, true)), none, []⟩,
 oG 107 104 true (.move (.t 7)),
 oG 108 104 true (.bin .eql (.t 106) (.t 107)),
 oP 109 (.pick (.t 104) (.t 108) (.c (.bool false))),
 oP 110 (.eqB true (.t 101) (.t 109))])
 (.cond (.t 110) (.seq (.region 0 [oP 6 (.move (.c (.bool false)))])
 (.ret))
 (.skip)))))))
 (.skip)))
 (.seq (.seq (.region 0 [oQ 111 (.load true 1 (.t 3)),
 oP 112 (.fieldAddr 1 (.t 5)),
 oQ 113 (.load false 1 (.t 112)),
 oQ 114 (.call 1 49 [(.t 111), (.t 113)]),
 oP 115 (.un .not (.t 114)),
 oP 116 (.move (.t 115)),
 oG 117 116 false (.move (.t 1)),
 oG 118 116 false (.fieldAddr 1 (.t 5)),
 ⟨(some 119), .load false 1 (.t 118), (some (116, false)), none, []⟩,
 oG 120 116 false (.idxSl 1 (.t 117) (.t 119)),
 ⟨(some 121), .load false 1 (.t 120), (some (116, false)), none, []⟩,
 oG 122 116 false (.bin .eql (.t 121) (.c (.int .i64 0))),
 oP 123 (.pick (.t 116) (.c (.bool true)) (.t 122))])
 (.cond (.t 123) (.seq (.region 0 [oQ 124 (.call 1 17 []),
 oP 6 (.move (.t 124))])
 (.ret))
 (.skip)))
 (.seq (.region 0 [oQ 125 (.buildSlice 1 0 [.int .i64 0] []),
 oP 126 (.move (.t 1)),
 oQ 127 (.append false 1 8 (.t 125) (.t 126)),
 oP 13 (.move (.t 127))])
 (.seq (.region 0 [oP 128 (.move (.t 13)),
 oP 129 (.fieldAddr 1 (.t 5)),
 oQ 130 (.load false 1 (.t 129)),
 oP 131 (.idxSl 1 (.t 128) (.t 130)),
 oQ 132 (.load false 1 (.t 131)),
 oP 133 (.bin .sub (.t 132) (.c (.int .i64 1))),
 oP 134 (.idxSl 1 (.t 128) (.t 130)),
 ⟨none, .store 1 (.t 134) (.t 133), none, none, []⟩])
 (.seq (.region 0 [oQ 136 (.load true 1 (.t 3)),
 oP 137 (.move (.t 13)),
 oQ 138 (.call 1 35 [(.t 136), (.t 137)]),
 oP 135 (.move (.t 138)),
 oP 139 (.extract (.t 135) 0),
 oP 140 (.extract (.t 135) 1),
 oP 14 (.move (.t 139)),
 oP 15 (.move (.t 140))])
 (.seq (.region 0 [oP 141 (.move (.t 8)),
 oP 142 (.bin .neq (.t 141) (.c (.int .i64 0))),
 oP 143 (.move (.t 142)),
 oG 144 143 false (.move (.t 15)),
 oG 145 143 false (.bin .eql (.t 144) (.c (.int .i64 0))),
 oG 146 143 false (.move (.t 145)),
 oG 147 146 true (.move (.t 14)),
 oG 148 146 true (.move (.t 7)),
 oG 149 146 true (.bin .leq (.t 147) (.t 148)),
 oG 150 143 false (.pick (.t 146) (.t 149) (.c (.bool false))),
 oP 151 (.pick (.t 143) (.c (.bool true)) (.t 150)),
 oP 152 (.move (.t 151)),
 ⟨(some 153), .call 1 17 [], (some (152, true)), none, []⟩,
 oP 154 (.pick (.t 152) (.t 153) (.c (.bool false))),
 oP 6 (.move (.t 154))])
 (.ret))))))))))⟩
/-- almadraba/almadrabalaw10.SharesParts -/
def f14 : AFn := ⟨117, [.tmp 4],
 .seq (.region 0 [oQ 2 (.box (.t 0)),
 oP 4 (.move (.c (.bool false)))])
 (.seq (.seq (.region 0 [oQ 14 (.load true 1 (.t 2)),
 oQ 15 (.call 1 45 [(.t 14)]),
 oP 16 (.un .not (.t 15)),
 oP 17 (.move (.t 16)),
 ⟨(some 18), .load true 1 (.t 2), (some (17, false)), none, []⟩,
 oG 19 17 false (.move (.t 1)),
 ⟨(some 20), .call 1 49 [(.t 18), (.t 19)], (some (17, false)), none, []⟩,
 oG 21 17 false (.un .not (.t 20)),
 oP 22 (.pick (.t 17) (.c (.bool true)) (.t 21))])
 (.cond (.t 22) (.seq (.region 0 [oQ 23 (.call 1 17 []),
 oP 4 (.move (.t 23))])
 (.ret))
 (.skip)))
 (.seq (.region 0 [oQ 25 (.load true 1 (.t 2)),
 oQ 26 (.call 1 33 [(.t 25), (.c (.int .i64 0))]),
 oP 24 (.move (.t 26)),
 oP 27 (.extract (.t 24) 0),
 oP 28 (.extract (.t 24) 1),
 oQ 5 (.alloc [.int .i64 0, .int .i64 0]),
 ⟨none, .store 2 (.t 5) (.t 27), none, none, []⟩,
 oP 6 (.move (.t 28))])
 (.seq (.region 0 [oQ 30 (.load true 1 (.t 2)),
 oP 31 (.move (.t 1)),
 oQ 32 (.call 1 33 [(.t 30), (.t 31)]),
 oP 29 (.move (.t 32)),
 oP 33 (.extract (.t 29) 0),
 oP 34 (.extract (.t 29) 1),
 oQ 7 (.alloc [.int .i64 0, .int .i64 0]),
 ⟨none, .store 2 (.t 7) (.t 33), none, none, []⟩,
 oP 8 (.move (.t 34))])
 (.seq (.seq (.region 0 [oP 35 (.move (.t 6)),
 oP 36 (.bin .neq (.t 35) (.c (.int .i64 0))),
 oP 37 (.move (.t 36)),
 oG 38 37 false (.move (.t 8)),
 oG 39 37 false (.bin .neq (.t 38) (.c (.int .i64 0))),
 oP 40 (.pick (.t 37) (.c (.bool true)) (.t 39)),
 oP 41 (.move (.t 40)),
 ⟨(some 42), .load true 2 (.t 5), (some (41, false)), none, []⟩,
 oG 43 41 false (.build [.int .i64 0, .int .i64 0] [(0, 1, (.c (.int .i64 1))), (1, 1, (.c (.int .i64 1)))]),
 oG 44 41 false (.eqS true [true, true] (.t 42) (.t 43)),
 oP 45 (.pick (.t 41) (.c (.bool true)) (.t 44)),
 oP 46 (.move (.t 45)),
 ⟨(some 47), .load true 2 (.t 7), (some (46, false)), none, []⟩,
 ⟨(some 48), .call 1 57 [(.t 47)], (some (46, false)), none, []⟩,
 oG 49 46 false (.un .not (.t 48)),
 oP 50 (.pick (.t 46) (.c (.bool true)) (.t 49))])
 (.cond (.t 50) (.seq (.region 0 [oP 4 (.move (.c (.bool false)))])
 (.ret))
 (.skip)))
 (.seq (.region 0 [oQ 51 (.load true 1 (.t 2)),
 oP 52 (.move (.t 1)),
 oQ 53 (.call 1 48 [(.t 51), (.t 52)]),
 oP 9 (.move (.t 53))])
 (.seq (.seq (.region 0 [oP 54 (.move (.t 9)),
 oP 55 (.lenS (.t 54)),
 oP 56 (.bin .eql (.t 55) (.c (.int .i64 0)))])
 (.cond (.t 56) (.seq (.region 0 [oQ 57 (.call 1 17 []),
 oP 4 (.move (.t 57))])
 (.ret))
 (.skip)))
 (.seq (.region 0 [oP 58 (.build [.int .i64 0, .int .i64 0] [(0, 1, (.c (.int .i64 0))), (1, 1, (.c (.int .i64 1)))]),
 oQ 10 (.alloc [.int .i64 0, .int .i64 0]),
 ⟨none, .store 2 (.t 10) (.t 58), none, none, []⟩])
 (.seq (.seq (.region 0 [oP 11 (.move (.c (.int .i64 0)))])
 (.block 0 (.loop (.seq (.seq (.region 0 [oP 59 (.move (.t 11)),
 oP 60 (.move (.t 9)),
 oP 61 (.lenS (.t 60)),
 oP 62 (.bin .lss (.t 59) (.t 61))])
 (.cond (.t 62) (.skip)
 (.exit 0)))
 (.seq (.block 1 (.seq (.region 1 [⟨(some 66), .load true 1 (.t 2), none, none, [0]⟩,
 oP 67 (.move (.t 9)),
 oP 68 (.move (.t 11)),
 oP 69 (.idxSl 1 (.t 67) (.t 68)),
 ⟨(some 70), .load false 1 (.t 69), none, none, [0]⟩,
 ⟨(some 71), .call 1 33 [(.t 66), (.t 70)], none, none, [0]⟩,
 oP 65 (.move (.t 71)),
 oP 72 (.extract (.t 65) 0),
 oP 73 (.extract (.t 65) 1),
 ⟨(some 12), .alloc [.int .i64 0, .int .i64 0], none, (some 0), []⟩,
 ⟨none, .store 2 (.t 12) (.t 72), none, (some 0), []⟩,
 oP 13 (.move (.t 73))])
 (.seq (.seq (.region 0 [oP 74 (.move (.t 13)),
 oP 75 (.bin .neq (.t 74) (.c (.int .i64 0))),
 oP 76 (.move (.t 75)),
 ⟨(some 77), .load true 2 (.t 12), (some (76, false)), none, []⟩,
 ⟨(some 78), .call 1 57 [(.t 77)], (some (76, false)), none, []⟩,
 oG 79 76 false (.un .not (.t 78)),
 oP 80 (.pick (.t 76) (.c (.bool true)) (.t 79))])
 (.cond (.t 80) (.seq (.region 0 [oP 4 (.move (.c (.bool false)))])
 (.ret))
 (.skip)))
 (.seq (.region 0 [oP 81 (.fieldAddr 0 (.t 10)),
 oQ 82 (.load false 1 (.t 81)),
 oP 83 (.fieldAddr 1 (.t 12)),
 oQ 84 (.load false 1 (.t 83)),
 oP 85 (.bin .mul (.t 82) (.t 84)),
 oP 86 (.fieldAddr 0 (.t 12)),
 oQ 87 (.load false 1 (.t 86)),
 oP 88 (.fieldAddr 1 (.t 10)),
 oQ 89 (.load false 1 (.t 88)),
 oP 90 (.bin .mul (.t 87) (.t 89)),
 oP 91 (.bin .add (.t 85) (.t 90)),
 oP 92 (.fieldAddr 1 (.t 10)),
 oQ 93 (.load false 1 (.t 92)),
 oP 94 (.fieldAddr 1 (.t 12)),
 oQ 95 (.load false 1 (.t 94)),
 oP 96 (.bin .mul (.t 93) (.t 95)),
 oQ 97 (.call 1 58 [(.t 91), (.t 96)]),
 ⟨none, .store 2 (.t 10) (.t 97), none, none, []⟩])
 (.seq (.region 0 [oP 98 (.fieldAddr 1 (.t 10)),
 oQ 99 (.load false 1 (.t 98)),
 oP 100 (.bin .gtr (.t 99) (.c (.int .i64 536870912)))])
 (.cond (.t 100) (.seq (.region 0 [oP 4 (.move (.c (.bool false)))])
 (.ret))
 (.skip)))))))
 (.region 0 [oP 63 (.move (.t 11)),
 oP 64 (.bin .add (.t 63) (.c (.int .i64 1))),
 oP 11 (.move (.t 64))]))))))
 (.seq (.seq (.region 0 [oQ 101 (.load true 1 (.t 2)),
 oP 102 (.move (.t 1)),
 oQ 103 (.call 1 50 [(.t 101), (.t 102)]),
 oP 104 (.bin .eql (.t 103) (.c (.int .i64 0)))])
 (.cond (.t 104) (.seq (.region 0 [oP 105 (.fieldAddr 0 (.t 10)),
 oQ 106 (.load false 1 (.t 105)),
 oP 107 (.bin .eql (.t 106) (.c (.int .i64 0))),
 oP 108 (.move (.t 107)),
 ⟨(some 109), .call 1 17 [], (some (108, true)), none, []⟩,
 oP 110 (.pick (.t 108) (.t 109) (.c (.bool false))),
 oP 4 (.move (.t 110))])
 (.ret))
 (.skip)))
 (.seq (.region 0 [oQ 111 (.load true 2 (.t 10)),
 oQ 112 (.load true 2 (.t 7)),
 oP 113 (.eqS false [true, true] (.t 111) (.t 112)),
 oP 114 (.move (.t 113)),
 ⟨(some 115), .call 1 17 [], (some (114, true)), none, []⟩,
 oP 116 (.pick (.t 114) (.t 115) (.c (.bool false))),
 oP 4 (.move (.t 116))])
 (.ret)))))))))))⟩
/-- almadraba/almadrabalaw10.SharesReach -/
def f15 : AFn := ⟨106, [.tmp 6],
 .seq (.region 0 [oQ 3 (.box (.t 0)),
 oQ 4 (.box (.t 1)),
 oP 6 (.move (.c (.bool false)))])
 (.seq (.seq (.region 0 [oQ 13 (.load true 1 (.t 3)),
 oQ 14 (.call 1 45 [(.t 13)]),
 oP 15 (.un .not (.t 14)),
 oP 16 (.move (.t 15)),
 ⟨(some 17), .load true 1 (.t 3), (some (16, false)), none, []⟩,
 oG 18 16 false (.fieldAddr 1 (.t 4)),
 ⟨(some 19), .load false 1 (.t 18), (some (16, false)), none, []⟩,
 ⟨(some 20), .call 1 49 [(.t 17), (.t 19)], (some (16, false)), none, []⟩,
 oG 21 16 false (.un .not (.t 20)),
 oP 22 (.pick (.t 16) (.c (.bool true)) (.t 21)),
 oP 23 (.move (.t 22)),
 oG 24 23 false (.move (.t 2)),
 ⟨(some 25), .call 1 46 [(.t 24)], (some (23, false)), none, []⟩,
 oG 26 23 false (.un .not (.t 25)),
 oP 27 (.pick (.t 23) (.c (.bool true)) (.t 26))])
 (.cond (.t 27) (.seq (.region 0 [oQ 28 (.call 1 17 []),
 oP 6 (.move (.t 28))])
 (.ret))
 (.skip)))
 (.seq (.region 0 [oQ 30 (.load true 1 (.t 3)),
 oP 31 (.fieldAddr 1 (.t 4)),
 oQ 32 (.load false 1 (.t 31)),
 oP 33 (.move (.t 2)),
 oQ 34 (.call 1 29 [(.t 30), (.t 32), (.t 33)]),
 oP 29 (.move (.t 34)),
 oP 35 (.extract (.t 29) 0),
 oP 36 (.extract (.t 29) 1),
 oP 7 (.move (.t 35)),
 oP 8 (.move (.t 36))])
 (.seq (.seq (.region 0 [oP 37 (.move (.t 8)),
 oP 38 (.bin .neq (.t 37) (.c (.int .i64 0))),
 oP 39 (.move (.t 38)),
 oG 40 39 true (.move (.t 8)),
 oG 41 39 true (.bin .neq (.t 40) (.c (.int .i64 3))),
 oP 42 (.pick (.t 39) (.t 41) (.c (.bool false))),
 oP 43 (.move (.t 42)),
 oG 44 43 false (.move (.t 8)),
 oG 45 43 false (.bin .eql (.t 44) (.c (.int .i64 0))),
 oG 46 43 false (.move (.t 45)),
 oG 47 46 true (.move (.t 7)),
 ⟨(some 48), .call 1 46 [(.t 47)], (some (46, true)), none, []⟩,
 oG 49 46 true (.un .not (.t 48)),
 oG 50 43 false (.pick (.t 46) (.t 49) (.c (.bool false))),
 oP 51 (.pick (.t 43) (.c (.bool true)) (.t 50))])
 (.cond (.t 51) (.seq (.region 0 [oP 6 (.move (.c (.bool false)))])
 (.ret))
 (.skip)))
 (.seq (.seq (.region 0 [oP 52 (.move (.t 8)),
 oP 53 (.bin .eql (.t 52) (.c (.int .i64 0)))])
 (.cond (.t 53) (.seq (.region 0 [oQ 55 (.load true 1 (.t 3)),
 oP 56 (.move (.t 7)),
 oQ 57 (.call 1 47 [(.t 55), (.t 56)]),
 oP 54 (.move (.t 57)),
 oP 58 (.extract (.t 54) 0),
 oP 59 (.extract (.t 54) 1),
 oP 9 (.move (.t 58)),
 oP 10 (.move (.t 59))])
 (.seq (.region 0 [oP 60 (.move (.t 10)),
 oP 61 (.un .not (.t 60)),
 oP 62 (.move (.t 61)),
 oG 63 62 false (.move (.t 9)),
 oG 64 62 false (.fieldAddr 1 (.t 4)),
 ⟨(some 65), .load false 1 (.t 64), (some (62, false)), none, []⟩,
 oG 66 62 false (.idxSl 1 (.t 63) (.t 65)),
 ⟨(some 67), .load false 1 (.t 66), (some (62, false)), none, []⟩,
 oG 68 62 false (.move (.t 2)),
 oG 69 62 false (.bin .neq (.t 67) (.t 68)),
 oP 70 (.pick (.t 62) (.c (.bool true)) (.t 69))])
 (.cond (.t 70) (.seq (.region 0 [oP 6 (.move (.c (.bool false)))])
 (.ret))
 (.skip))))
 (.skip)))
 (.seq (.seq (.region 0 [oP 71 (.fieldAddr 2 (.t 4)),
 oQ 72 (.load false 1 (.t 71)),
 oQ 73 (.call 1 46 [(.t 72)]),
 oP 74 (.un .not (.t 73)),
 oP 75 (.move (.t 74)),
 oG 76 75 false (.move (.t 8)),
 oG 77 75 false (.bin .eql (.t 76) (.c (.int .i64 0))),
 oG 78 75 false (.move (.t 77)),
 oG 79 78 true (.fieldAddr 2 (.t 4)),
 ⟨(some 80), .load false 1 (.t 79), (some (78, true)), none, []⟩,
 oG 81 78 true (.move (.t 7)),
 oG 82 78 true (.bin .geq (.t 80) (.t 81)),
 oG 83 75 false (.pick (.t 78) (.t 82) (.c (.bool false))),
 oP 84 (.pick (.t 75) (.c (.bool true)) (.t 83))])
 (.cond (.t 84) (.seq (.region 0 [oQ 85 (.call 1 17 []),
 oP 6 (.move (.t 85))])
 (.ret))
 (.skip)))
 (.seq (.region 0 [oQ 87 (.load true 1 (.t 3)),
 oP 88 (.fieldAddr 2 (.t 4)),
 oQ 89 (.load false 1 (.t 88)),
 oQ 90 (.call 1 47 [(.t 87), (.t 89)]),
 oP 86 (.move (.t 90)),
 oP 91 (.extract (.t 86) 0),
 oP 92 (.extract (.t 86) 1),
 oP 11 (.move (.t 91)),
 oP 12 (.move (.t 92))])
 (.seq (.region 0 [oP 93 (.move (.t 12)),
 oP 94 (.move (.t 93)),
 oG 95 94 true (.move (.t 11)),
 oG 96 94 true (.fieldAddr 1 (.t 4)),
 ⟨(some 97), .load false 1 (.t 96), (some (94, true)), none, []⟩,
 oG 98 94 true (.idxSl 1 (.t 95) (.t 97)),
 ⟨(some 99), .load false 1 (.t 98), (some (94, true)), none, []⟩,
 oG 100 94 true (.move (.t 2)),
 oG 101 94 true (.bin .lss (.t 99) (.t 100)),
 oP 102 (.pick (.t 94) (.t 101) (.c (.bool false))),
 oP 103 (.move (.t 102)),
 ⟨(some 104), .call 1 17 [], (some (103, true)), none, []⟩,
 oP 105 (.pick (.t 103) (.t 104) (.c (.bool false))),
 oP 6 (.move (.t 105))])
 (.ret))))))))⟩
/-- almadraba/almadrabalaw10.Far -/
def f16 : AFn := ⟨7, [.tmp 2],
 .seq (.region 0 [oQ 1 (.box (.t 0)),
 oP 2 (.move (.c (.bool false)))])
 (.seq (.region 0 [oP 3 (.fieldAddr 0 (.t 1)),
 oQ 4 (.load false 1 (.t 3)),
 oP 5 (.lenS (.t 4)),
 oP 6 (.bin .gtr (.t 5) (.c (.int .i64 40))),
 oP 2 (.move (.t 6))])
 (.ret))⟩
/-- almadraba/almadrabalaw10.works -/
def f17 : AFn := ⟨100, [.tmp 0],
 .seq (.region 0 [oP 0 (.move (.c (.bool false)))])
 (.seq (.region 0 [oQ 16 (.call 1 59 []),
 oP 15 (.move (.t 16)),
 oP 17 (.extract (.t 15) 0),
 oP 18 (.extract (.t 15) 1),
 oQ 1 (.alloc [.nils]),
 oQ 2 (.alloc [.nils]),
 ⟨none, .store 1 (.t 1) (.t 17), none, none, []⟩,
 ⟨none, .store 1 (.t 2) (.t 18), none, none, []⟩])
 (.seq (.region 0 [oQ 20 (.load true 1 (.t 1)),
 oQ 21 (.call 1 23 [(.t 20), (.c (.int .i64 42))]),
 oP 19 (.move (.t 21)),
 oP 22 (.extract (.t 19) 0),
 oP 23 (.extract (.t 19) 1),
 oP 3 (.move (.t 22)),
 oP 4 (.move (.t 23))])
 (.seq (.region 0 [oQ 25 (.load true 1 (.t 1)),
 oQ 26 (.call 1 29 [(.t 25), (.c (.int .i64 7)), (.c (.int .i64 13))]),
 oP 24 (.move (.t 26)),
 oP 27 (.extract (.t 24) 0),
 oP 28 (.extract (.t 24) 1),
 oP 5 (.move (.t 27)),
 oP 6 (.move (.t 28))])
 (.seq (.region 0 [oQ 30 (.load true 1 (.t 2)),
 oQ 31 (.call 1 31 [(.t 30), (.c (.int .i64 2))]),
 oP 29 (.move (.t 31)),
 oP 32 (.extract (.t 29) 0),
 oP 33 (.extract (.t 29) 1),
 oP 7 (.move (.t 32)),
 oP 8 (.move (.t 33))])
 (.seq (.region 0 [oQ 35 (.load true 1 (.t 1)),
 oQ 36 (.call 1 33 [(.t 35), (.c (.int .i64 7))]),
 oP 34 (.move (.t 36)),
 oP 37 (.extract (.t 34) 0),
 oP 38 (.extract (.t 34) 1),
 oQ 9 (.alloc [.int .i64 0, .int .i64 0]),
 ⟨none, .store 2 (.t 9) (.t 37), none, none, []⟩,
 oP 10 (.move (.t 38))])
 (.seq (.region 0 [oQ 40 (.load true 1 (.t 1)),
 oP 41 (.build [.int .i64 0, .int .i64 0, .int .i64 0] [(0, 1, (.c (.int .i64 42))), (1, 1, (.c (.int .i64 5))), (2, 1, (.c (.int .i64 6)))]),
 oQ 42 (.litS 3 1 [.int .i64 0, .int .i64 0, .int .i64 0] [(0, (.t 41))]),
 oQ 43 (.call 1 40 [(.t 40), (.c (.int .i64 5)), (.t 42)]),
 oP 39 (.move (.t 43)),
 oP 44 (.extract (.t 39) 0),
 oP 45 (.extract (.t 39) 1),
 oP 11 (.move (.t 44)),
 oP 12 (.move (.t 45))])
 (.seq (.region 0 [oQ 47 (.load true 1 (.t 1)),
 oQ 48 (.call 1 42 [(.t 47), (.c (.int .i64 5)), (.c (.nils))]),
 oP 46 (.move (.t 48)),
 oP 49 (.extract (.t 46) 0),
 oP 50 (.extract (.t 46) 1),
 oP 13 (.move (.t 49)),
 oP 14 (.move (.t 50))])
 (.seq (.region 0 [oP 51 (.move (.t 4)),
 oP 52 (.bin .eql (.t 51) (.c (.int .i64 0))),
 oP 53 (.move (.t 52)),
 oG 54 53 true (.move (.t 6)),
 oG 55 53 true (.bin .eql (.t 54) (.c (.int .i64 0))),
 oP 56 (.pick (.t 53) (.t 55) (.c (.bool false))),
 oP 57 (.move (.t 56)),
 oG 58 57 true (.move (.t 8)),
 oG 59 57 true (.bin .eql (.t 58) (.c (.int .i64 0))),
 oP 60 (.pick (.t 57) (.t 59) (.c (.bool false))),
 oP 61 (.move (.t 60)),
 oG 62 61 true (.move (.t 10)),
 oG 63 61 true (.bin .eql (.t 62) (.c (.int .i64 0))),
 oP 64 (.pick (.t 61) (.t 63) (.c (.bool false))),
 oP 65 (.move (.t 64)),
 oG 66 65 true (.move (.t 12)),
 oG 67 65 true (.bin .eql (.t 66) (.c (.int .i64 0))),
 oP 68 (.pick (.t 65) (.t 67) (.c (.bool false))),
 oP 69 (.move (.t 68)),
 oG 70 69 true (.move (.t 14)),
 oG 71 69 true (.bin .eql (.t 70) (.c (.int .i64 0))),
 oP 72 (.pick (.t 69) (.t 71) (.c (.bool false))),
 oP 73 (.move (.t 72)),
 oG 74 73 true (.move (.t 3)),
 ⟨(some 75), .litS 1 8 [.int .i64 0] [(0, (.c (.int .i64 0))), (1, (.c (.int .i64 3))), (2, (.c (.int .i64 0))), (3, (.c (.int .i64 0))), (4, (.c (.int .i64 14))), (5, (.c (.int .i64 6))), (6, (.c (.int .i64 6))), (7, (.c (.int .i64 13)))], (some (73, true)), none, []⟩,
 ⟨(some 76), .call 1 27 [(.t 74), (.t 75)], (some (73, true)), none, []⟩,
 oP 77 (.pick (.t 73) (.t 76) (.c (.bool false))),
 oP 78 (.move (.t 77)),
 oG 79 78 true (.move (.t 5)),
 oG 80 78 true (.bin .eql (.t 79) (.c (.int .i64 41))),
 oP 81 (.pick (.t 78) (.t 80) (.c (.bool false))),
 oP 82 (.move (.t 81)),
 oG 83 82 true (.move (.t 7)),
 oG 84 82 true (.bin .eql (.t 83) (.c (.int .i64 2))),
 oP 85 (.pick (.t 82) (.t 84) (.c (.bool false))),
 oP 86 (.move (.t 85)),
 ⟨(some 87), .load true 2 (.t 9), (some (86, true)), none, []⟩,
 oG 88 86 true (.build [.int .i64 0, .int .i64 0] [(0, 1, (.c (.int .i64 2))), (1, 1, (.c (.int .i64 5)))]),
 oG 89 86 true (.eqS false [true, true] (.t 87) (.t 88)),
 oP 90 (.pick (.t 86) (.t 89) (.c (.bool false))),
 oP 91 (.move (.t 90)),
 oG 92 91 true (.move (.t 11)),
 ⟨(some 93), .litS 1 1 [.int .i64 0] [(0, (.c (.int .i64 1)))], (some (91, true)), none, []⟩,
 ⟨(some 94), .call 1 27 [(.t 92), (.t 93)], (some (91, true)), none, []⟩,
 oP 95 (.pick (.t 91) (.t 94) (.c (.bool false))),
 oP 96 (.move (.t 95)),
 oG 97 96 true (.move (.t 13)),
 oG 98 96 true (.bin .eql (.t 97) (.c (.int .i64 68))),
 oP 99 (.pick (.t 96) (.t 98) (.c (.bool false))),
 oP 0 (.move (.t 99))])
 (.ret)))))))))⟩
/-- almadraba/almadrabaref10.Copy -/
def f18 : AFn := ⟨8, [.cell true 1 2],
 .seq (.region 0 [oQ 1 (.box (.t 0)),
 oQ 2 (.alloc [.nils])])
 (.seq (.region 0 [oQ 3 (.buildSlice 3 0 [.int .i64 0, .int .i64 0, .int .i64 0] []),
 oP 4 (.fieldAddr 0 (.t 1)),
 oQ 5 (.load false 1 (.t 4)),
 oQ 6 (.append false 3 24 (.t 3) (.t 5)),
 oP 7 (.build [.nils] [(0, 1, (.t 6))]),
 ⟨none, .store 1 (.t 2) (.t 7), none, none, []⟩])
 (.ret))⟩
/-- almadraba/shares.Check -/
def f19 : AFn := ⟨6, [.tmp 2],
 .seq (.region 0 [oQ 1 (.box (.t 0)),
 oP 2 (.move (.c (.int .i64 0)))])
 (.seq (.seq (.region 0 [oQ 3 (.load true 1 (.t 1)),
 oQ 4 (.call 1 60 [(.t 3)]),
 oP 5 (.un .not (.t 4))])
 (.cond (.t 5) (.seq (.region 0 [oP 2 (.move (.c (.int .i64 100)))])
 (.ret))
 (.skip)))
 (.seq (.region 0 [oP 2 (.move (.c (.int .i64 0)))])
 (.ret)))⟩
/-- almadraba/almadrabaref10.Check -/
def f20 : AFn := ⟨53, [.tmp 2],
 .seq (.region 0 [oQ 1 (.box (.t 0)),
 oP 2 (.move (.c (.int .i64 0)))])
 (.seq (.seq (.region 0 [oP 5 (.fieldAddr 0 (.t 1)),
 oQ 6 (.load false 1 (.t 5)),
 oP 7 (.lenS (.t 6)),
 oQ 8 (.call 1 61 [(.t 7), (.c (.int .i64 1)), (.c (.int .i64 8))]),
 oP 9 (.un .not (.t 8))])
 (.cond (.t 9) (.seq (.region 0 [oP 2 (.move (.c (.int .i64 100)))])
 (.ret))
 (.skip)))
 (.seq (.seq (.region 0 [oP 3 (.move (.c (.int .i64 0)))])
 (.block 0 (.loop (.seq (.seq (.region 0 [oP 10 (.move (.t 3)),
 oP 11 (.fieldAddr 0 (.t 1)),
 oQ 12 (.load false 1 (.t 11)),
 oP 13 (.lenS (.t 12)),
 oP 14 (.bin .lss (.t 10) (.t 13))])
 (.cond (.t 14) (.skip)
 (.exit 0)))
 (.seq (.block 1 (.seq (.region 0 [oP 17 (.fieldAddr 0 (.t 1)),
 oQ 18 (.load false 1 (.t 17)),
 oP 19 (.move (.t 3)),
 oP 20 (.idxSl 3 (.t 18) (.t 19)),
 oQ 21 (.load true 3 (.t 20)),
 oQ 4 (.alloc [.int .i64 0, .int .i64 0, .int .i64 0]),
 ⟨none, .store 3 (.t 4) (.t 21), none, none, []⟩])
 (.seq (.region 0 [oP 22 (.move (.t 3)),
 oP 23 (.bin .eql (.t 22) (.c (.int .i64 0))),
 oP 24 (.move (.t 23)),
 oG 25 24 true (.fieldAddr 0 (.t 4)),
 ⟨(some 26), .load false 1 (.t 25), (some (24, true)), none, []⟩,
 oG 27 24 true (.bin .neq (.t 26) (.c (.int .i64 (-1)))),
 oP 28 (.pick (.t 24) (.t 27) (.c (.bool false))),
 oP 29 (.move (.t 28)),
 oG 30 29 false (.move (.t 3)),
 oG 31 29 false (.bin .gtr (.t 30) (.c (.int .i64 0))),
 oG 32 29 false (.move (.t 31)),
 oG 33 32 true (.fieldAddr 0 (.t 4)),
 ⟨(some 34), .load false 1 (.t 33), (some (32, true)), none, []⟩,
 oG 35 32 true (.move (.t 3)),
 oG 36 32 true (.bin .sub (.t 35) (.c (.int .i64 1))),
 ⟨(some 37), .call 1 61 [(.t 34), (.c (.int .i64 0)), (.t 36)], (some (32, true)), none, []⟩,
 oG 38 32 true (.un .not (.t 37)),
 oG 39 29 false (.pick (.t 32) (.t 38) (.c (.bool false))),
 oP 40 (.pick (.t 29) (.c (.bool true)) (.t 39)),
 oP 41 (.move (.t 40)),
 oG 42 41 false (.fieldAddr 1 (.t 4)),
 ⟨(some 43), .load false 1 (.t 42), (some (41, false)), none, []⟩,
 ⟨(some 44), .call 1 61 [(.t 43), (.c (.int .i64 0)), (.c (.int .i64 9))], (some (41, false)), none, []⟩,
 oG 45 41 false (.un .not (.t 44)),
 oP 46 (.pick (.t 41) (.c (.bool true)) (.t 45)),
 oP 47 (.move (.t 46)),
 oG 48 47 false (.fieldAddr 2 (.t 4)),
 ⟨(some 49), .load false 1 (.t 48), (some (47, false)), none, []⟩,
 ⟨(some 50), .call 1 61 [(.t 49), (.c (.int .i64 0)), (.c (.int .i64 20))], (some (47, false)), none, []⟩,
 oG 51 47 false (.un .not (.t 50)),
 oP 52 (.pick (.t 47) (.c (.bool true)) (.t 51))])
 (.cond (.t 52) (.seq (.region 0 [oP 2 (.move (.c (.int .i64 100)))])
 (.ret))
 (.skip)))))
 (.region 0 [oP 15 (.move (.t 3)),
 oP 16 (.bin .add (.t 15) (.c (.int .i64 1))),
 oP 3 (.move (.t 16))]))))))
 (.seq (.region 0 [oP 2 (.move (.c (.int .i64 0)))])
 (.ret))))⟩
/-- almadraba/shares.Gets -/
def f21 : AFn := ⟨25, [.tmp 4, .tmp 5],
 .seq (.region 0 [oQ 2 (.box (.t 0)),
 oP 4 (.move (.c (.nils))),
 oP 5 (.move (.c (.int .i64 0)))])
 (.seq (.seq (.region 0 [oQ 9 (.load true 1 (.t 2)),
 oP 10 (.move (.t 1)),
 oQ 11 (.call 1 63 [(.t 10)]),
 oQ 12 (.call 1 62 [(.t 9), (.t 11), (.c (.nils))]),
 oP 6 (.move (.t 12))])
 (.seq (.region 0 [oP 13 (.move (.t 6)),
 oP 14 (.bin .neq (.t 13) (.c (.int .i64 0)))])
 (.cond (.t 14) (.seq (.region 0 [oP 15 (.move (.t 6)),
 oP 4 (.move (.c (.nils))),
 oP 5 (.move (.t 15))])
 (.ret))
 (.skip))))
 (.seq (.region 0 [oQ 17 (.load true 1 (.t 2)),
 oQ 18 (.call 1 64 [(.t 17)]),
 oP 19 (.move (.t 1)),
 oQ 20 (.call 2 65 [(.t 18), (.t 19)]),
 oP 16 (.move (.t 20)),
 oP 21 (.extract (.t 16) 0),
 oP 22 (.extract (.t 16) 1),
 oP 7 (.move (.t 21)),
 oP 8 (.move (.t 22))])
 (.seq (.region 0 [oP 23 (.move (.t 7)),
 oQ 24 (.call 0 66 [(.t 23)]),
 oP 4 (.move (.t 24)),
 oP 5 (.move (.c (.int .i64 0)))])
 (.ret))))⟩
/-- almadraba/almadrabaref10.Gets -/
def f22 : AFn := ⟨31, [.tmp 4, .tmp 5],
 .seq (.region 0 [oQ 2 (.box (.t 0)),
 oP 4 (.move (.c (.nils))),
 oP 5 (.move (.c (.int .i64 0)))])
 (.seq (.seq (.region 0 [oQ 9 (.load true 1 (.t 2)),
 oP 10 (.move (.t 1)),
 oQ 11 (.call 1 46 [(.t 10)]),
 oQ 12 (.call 1 67 [(.t 9), (.t 11)]),
 oP 6 (.move (.t 12))])
 (.seq (.region 0 [oP 13 (.move (.t 6)),
 oP 14 (.bin .neq (.t 13) (.c (.int .i64 0)))])
 (.cond (.t 14) (.seq (.region 0 [oP 15 (.move (.t 6)),
 oP 4 (.move (.c (.nils))),
 oP 5 (.move (.t 15))])
 (.ret))
 (.skip))))
 (.seq (.region 0 [oP 7 (.move (.c (.nils)))])
 (.seq (.seq (.region 0 [oP 8 (.move (.c (.int .i64 0)))])
 (.block 0 (.loop (.seq (.seq (.region 0 [oP 16 (.move (.t 8)),
 oP 17 (.fieldAddr 0 (.t 2)),
 oQ 18 (.load false 1 (.t 17)),
 oP 19 (.lenS (.t 18)),
 oP 20 (.bin .lss (.t 16) (.t 19))])
 (.cond (.t 20) (.skip)
 (.exit 0)))
 (.seq (.block 1 (.region 0 [oP 23 (.move (.t 7)),
 oQ 24 (.load true 1 (.t 2)),
 oP 25 (.move (.t 8)),
 oP 26 (.move (.t 1)),
 oQ 27 (.call 1 68 [(.t 24), (.t 25), (.t 26)]),
 oQ 28 (.litS 1 1 [.int .i64 0] [(0, (.t 27))]),
 oQ 29 (.append false 1 8 (.t 23) (.t 28)),
 oP 7 (.move (.t 29))]))
 (.region 0 [oP 21 (.move (.t 8)),
 oP 22 (.bin .add (.t 21) (.c (.int .i64 1))),
 oP 8 (.move (.t 22))]))))))
 (.seq (.region 0 [oP 30 (.move (.t 7)),
 oP 4 (.move (.t 30)),
 oP 5 (.move (.c (.int .i64 0)))])
 (.ret)))))⟩
/-- almadraba/shares.Keeps -/
def f23 : AFn := ⟨25, [.tmp 4, .tmp 5],
 .seq (.region 0 [oQ 2 (.box (.t 0)),
 oP 4 (.move (.c (.nils))),
 oP 5 (.move (.c (.int .i64 0)))])
 (.seq (.seq (.region 0 [oQ 9 (.load true 1 (.t 2)),
 oP 10 (.move (.t 1)),
 oQ 11 (.call 1 63 [(.t 10)]),
 oQ 12 (.call 1 62 [(.t 9), (.t 11), (.c (.nils))]),
 oP 6 (.move (.t 12))])
 (.seq (.region 0 [oP 13 (.move (.t 6)),
 oP 14 (.bin .neq (.t 13) (.c (.int .i64 0)))])
 (.cond (.t 14) (.seq (.region 0 [oP 15 (.move (.t 6)),
 oP 4 (.move (.c (.nils))),
 oP 5 (.move (.t 15))])
 (.ret))
 (.skip))))
 (.seq (.region 0 [oQ 17 (.load true 1 (.t 2)),
 oQ 18 (.call 1 64 [(.t 17)]),
 oP 19 (.move (.t 1)),
 oQ 20 (.call 2 65 [(.t 18), (.t 19)]),
 oP 16 (.move (.t 20)),
 oP 21 (.extract (.t 16) 0),
 oP 22 (.extract (.t 16) 1),
 oP 7 (.move (.t 21)),
 oP 8 (.move (.t 22))])
 (.seq (.region 0 [oP 23 (.move (.t 8)),
 oQ 24 (.call 0 66 [(.t 23)]),
 oP 4 (.move (.t 24)),
 oP 5 (.move (.c (.int .i64 0)))])
 (.ret))))⟩
/-- almadraba/almadrabaref10.Keeps -/
def f24 : AFn := ⟨17, [.tmp 4, .tmp 5],
 .seq (.region 0 [oQ 2 (.box (.t 0)),
 oP 4 (.move (.c (.nils))),
 oP 5 (.move (.c (.int .i64 0)))])
 (.seq (.seq (.region 0 [oQ 7 (.load true 1 (.t 2)),
 oP 8 (.move (.t 1)),
 oQ 9 (.call 1 46 [(.t 8)]),
 oQ 10 (.call 1 67 [(.t 7), (.t 9)]),
 oP 6 (.move (.t 10))])
 (.seq (.region 0 [oP 11 (.move (.t 6)),
 oP 12 (.bin .neq (.t 11) (.c (.int .i64 0)))])
 (.cond (.t 12) (.seq (.region 0 [oP 13 (.move (.t 6)),
 oP 4 (.move (.c (.nils))),
 oP 5 (.move (.t 13))])
 (.ret))
 (.skip))))
 (.seq (.region 0 [oQ 14 (.load true 1 (.t 2)),
 oP 15 (.move (.t 1)),
 oQ 16 (.call 1 69 [(.t 14), (.t 15)]),
 oP 4 (.move (.t 16)),
 oP 5 (.move (.c (.int .i64 0)))])
 (.ret)))⟩
/-- almadraba/shares.Split -/
def f25 : AFn := ⟨34, [.tmp 6, .tmp 7, .tmp 8],
 .seq (.region 0 [oQ 3 (.box (.t 0)),
 oP 6 (.move (.c (.nils))),
 oP 7 (.move (.c (.int .i64 0))),
 oP 8 (.move (.c (.int .i64 0)))])
 (.seq (.seq (.region 0 [oQ 11 (.load true 1 (.t 3)),
 oQ 12 (.load true 1 (.t 3)),
 oP 13 (.move (.t 1)),
 oQ 14 (.call 1 70 [(.t 12), (.t 13)]),
 oP 15 (.move (.t 14)),
 oG 16 15 true (.move (.t 2)),
 ⟨(some 17), .call 1 63 [(.t 16)], (some (15, true)), none, []⟩,
 oP 18 (.pick (.t 15) (.t 17) (.c (.bool false))),
 oQ 19 (.call 1 62 [(.t 11), (.t 18), (.c (.nils))]),
 oP 9 (.move (.t 19))])
 (.seq (.region 0 [oP 20 (.move (.t 9)),
 oP 21 (.bin .neq (.t 20) (.c (.int .i64 0)))])
 (.cond (.t 21) (.seq (.region 0 [oP 22 (.move (.t 9)),
 oP 6 (.move (.c (.nils))),
 oP 7 (.move (.c (.int .i64 0))),
 oP 8 (.move (.t 22))])
 (.ret))
 (.skip))))
 (.seq (.region 0 [oQ 24 (.load true 1 (.t 3)),
 oQ 25 (.call 1 64 [(.t 24)]),
 oP 26 (.move (.t 1)),
 oP 27 (.move (.t 2)),
 oQ 28 (.call 2 71 [(.t 25), (.t 26), (.t 27)]),
 oP 23 (.move (.t 28)),
 oP 29 (.extract (.t 23) 0),
 oP 30 (.extract (.t 23) 1),
 oP 10 (.move (.t 29)),
 oP 7 (.move (.t 30))])
 (.seq (.region 0 [oP 31 (.move (.t 10)),
 oQ 32 (.call 0 66 [(.t 31)]),
 oP 33 (.move (.t 7)),
 oP 6 (.move (.t 32)),
 oP 7 (.move (.t 33)),
 oP 8 (.move (.c (.int .i64 0)))])
 (.ret))))⟩
/-- almadraba/almadrabaref10.Split -/
def f26 : AFn := ⟨31, [.tmp 6, .tmp 7, .tmp 8],
 .seq (.region 0 [oQ 3 (.box (.t 0)),
 oP 6 (.move (.c (.nils))),
 oP 7 (.move (.c (.int .i64 0))),
 oP 8 (.move (.c (.int .i64 0)))])
 (.seq (.seq (.region 0 [oQ 10 (.load true 1 (.t 3)),
 oQ 11 (.load true 1 (.t 3)),
 oP 12 (.move (.t 1)),
 oQ 13 (.call 1 49 [(.t 11), (.t 12)]),
 oP 14 (.move (.t 13)),
 oG 15 14 true (.move (.t 2)),
 ⟨(some 16), .call 1 46 [(.t 15)], (some (14, true)), none, []⟩,
 oP 17 (.pick (.t 14) (.t 16) (.c (.bool false))),
 oQ 18 (.call 1 67 [(.t 10), (.t 17)]),
 oP 9 (.move (.t 18))])
 (.seq (.region 0 [oP 19 (.move (.t 9)),
 oP 20 (.bin .neq (.t 19) (.c (.int .i64 0)))])
 (.cond (.t 20) (.seq (.region 0 [oP 21 (.move (.t 9)),
 oP 6 (.move (.c (.nils))),
 oP 7 (.move (.c (.int .i64 0))),
 oP 8 (.move (.t 21))])
 (.ret))
 (.skip))))
 (.seq (.region 0 [oQ 23 (.load true 1 (.t 3)),
 oP 24 (.move (.t 1)),
 oP 25 (.move (.t 2)),
 oQ 26 (.call 1 72 [(.t 23), (.t 24), (.t 25)]),
 oP 22 (.move (.t 26)),
 oP 27 (.extract (.t 22) 0),
 oP 28 (.extract (.t 22) 1),
 oP 6 (.move (.t 27)),
 oP 7 (.move (.t 28))])
 (.seq (.region 0 [oP 29 (.move (.t 6)),
 oP 30 (.move (.t 7)),
 oP 6 (.move (.t 29)),
 oP 7 (.move (.t 30)),
 oP 8 (.move (.c (.int .i64 0)))])
 (.ret))))⟩
/-- almadraba/almadrabaref01.SameInts -/
def f27 : AFn := ⟨26, [.tmp 4],
 .seq (.region 0 [oP 4 (.move (.c (.bool false)))])
 (.seq (.seq (.region 0 [oP 6 (.move (.t 0)),
 oP 7 (.lenS (.t 6)),
 oP 8 (.move (.t 1)),
 oP 9 (.lenS (.t 8)),
 oP 10 (.bin .neq (.t 7) (.t 9))])
 (.cond (.t 10) (.seq (.region 0 [oP 4 (.move (.c (.bool false)))])
 (.ret))
 (.skip)))
 (.seq (.seq (.region 0 [oP 5 (.move (.c (.int .i64 0)))])
 (.block 0 (.loop (.seq (.seq (.region 0 [oP 11 (.move (.t 5)),
 oP 12 (.move (.t 0)),
 oP 13 (.lenS (.t 12)),
 oP 14 (.bin .lss (.t 11) (.t 13))])
 (.cond (.t 14) (.skip)
 (.exit 0)))
 (.seq (.block 1 (.seq (.region 0 [oP 17 (.move (.t 0)),
 oP 18 (.move (.t 5)),
 oP 19 (.idxSl 1 (.t 17) (.t 18)),
 oQ 20 (.load false 1 (.t 19)),
 oP 21 (.move (.t 1)),
 oP 22 (.move (.t 5)),
 oP 23 (.idxSl 1 (.t 21) (.t 22)),
 oQ 24 (.load false 1 (.t 23)),
 oP 25 (.bin .neq (.t 20) (.t 24))])
 (.cond (.t 25) (.seq (.region 0 [oP 4 (.move (.c (.bool false)))])
 (.ret))
 (.skip))))
 (.region 0 [oP 15 (.move (.t 5)),
 oP 16 (.bin .add (.t 15) (.c (.int .i64 1))),
 oP 5 (.move (.t 16))]))))))
 (.seq (.region 0 [oP 4 (.move (.c (.bool true)))])
 (.ret))))⟩
end Go.Proofs.Ytaeijjfgfenfhaa.T
