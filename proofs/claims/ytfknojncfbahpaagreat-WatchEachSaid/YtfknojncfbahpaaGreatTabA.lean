/-
The code of functions of the seat, as the abstract machine has it (printed by a tool of ours off the dump).
-/
import Derived.Test.YtfknojncfbahpaaGreatAmX
namespace Go.Proofs.YtfknojncfbahpaaGreat.T
open Go Go.Am
abbrev oP (n : Nat) (p : POp) : AOper:=⟨some n,.p p,none,none,[]⟩
abbrev oQ (n : Nat) (p : AOp) : AOper:=⟨some n,p,none,none,[]⟩
abbrev oG (n m : Nat) (b : Bool) (p : POp) : AOper:=⟨some n,.p p,some (m,b),none,[]⟩
abbrev oM (n k : Nat) : AOper:=oP n (.move (.t k))
abbrev oN (n m : Nat) (b : Bool) (k : Nat) : AOper:=oG n m b (.move (.t k))
abbrev oL (n : Nat) (b : Bool) (k t : Nat) : AOper:=oQ n (.load b k (.t t))
abbrev oF (n k t : Nat) : AOper:=oP n (.fieldAddr k (.t t))
abbrev oC (n : Nat) (k : Int) : AOper:=oP n (.move (.c (.int .i64 k)))
abbrev oE (n k i : Nat) : AOper:=oP n (.extract (.t k) i)
abbrev oD (n e k t : Nat) : AOper:=oP n (.idxSl e (.t k) (.t t))
def f2 : AFn:=⟨1,[],
 .region 0 [oQ 0 (.call 1 1 [])]⟩
def f3 : AFn:=⟨154,[.tmp 4],
 .seq (.region 0 [oQ 2 (.box (.t 0)),
 oQ 3 (.box (.t 1)),
 oP 4 (.move (.c (.bool false)))])
 (.seq (.seq (.region 0 [oL 18 true 7 2,
 oQ 19 (.call 1 15 [(.t 18)]),
 oP 20 (.un .not (.t 19)),
 oM 21 20,
 ⟨(some 22),.load true 7 (.t 2),(some (21,false)),none,[]⟩,
 ⟨(some 23),.load true 2 (.t 3),(some (21,false)),none,[]⟩,
 ⟨(some 24),.call 1 16 [(.t 22),(.t 23)],(some (21,false)),none,[]⟩,
 oG 25 21 false (.un .not (.t 24)),
 oP 26 (.pick (.t 21) (.c (.bool true)) (.t 25))])
 (.cond (.t 26) (.seq (.region 0 [oQ 27 (.call 1 17 []),
 oM 4 27])
 (.ret))
 (.skip)))
 (.seq (.region 2 [⟨(some 29),.load true 7 (.t 2),none,none,[0,1]⟩,
 ⟨(some 30),.buildSlice 1 0 [.int .i64 0] [],none,(some 0),[]⟩,
 oF 31 0 3,
 ⟨(some 32),.load false 1 (.t 31),none,none,[0,1]⟩,
 ⟨(some 33),.append true 1 8 (.t 30) (.t 32),none,(some 1),[]⟩,
 oQ 34 (.call 1 18 [(.t 29),(.t 33)]),
 oM 28 34,
 oE 35 28 0,
 oE 36 28 1,
 oM 5 35,
 oM 6 36])
 (.seq (.region 0 [oL 38 true 7 2,
 oQ 39 (.call 1 19 [(.t 38)]),
 oM 37 39,
 oE 40 37 0,
 oE 41 37 1,
 oM 7 40,
 oM 8 41])
 (.seq (.region 0 [oL 42 true 7 2,
 oF 43 1 3,
 oL 44 false 1 43,
 oQ 45 (.call 1 20 [(.t 42),(.t 44)]),
 oM 9 45])
 (.seq (.seq (.region 0 [oM 46 6,
 oP 47 (.bin .neq (.t 46) (.c (.int .i64 0))),
 oM 48 47,
 oN 49 48 false 5,
 oG 50 48 false (.un .not (.t 49)),
 oP 51 (.pick (.t 48) (.c (.bool true)) (.t 50)),
 oM 52 51,
 oN 53 52 false 8,
 oG 54 52 false (.un .not (.t 53)),
 oP 55 (.pick (.t 52) (.c (.bool true)) (.t 54)),
 oM 56 55,
 oN 57 56 false 9,
 oG 58 56 false (.lenS (.t 57)),
 oN 59 56 false 7,
 oG 60 56 false (.bin .lss (.t 58) (.t 59)),
 oP 61 (.pick (.t 56) (.c (.bool true)) (.t 60))])
 (.cond (.t 61) (.seq (.region 0 [oP 4 (.move (.c (.bool false)))])
 (.ret))
 (.skip)))
 (.seq (.seq (.region 0 [oC 10 0])
 (.block 0 (.loop (.seq (.seq (.region 0 [oM 62 10,
 oF 63 0 2,
 oF 64 3 63,
 oL 65 false 1 64,
 oP 66 (.lenS (.t 65)),
 oP 67 (.bin .lss (.t 62) (.t 66))])
 (.cond (.t 67) (.skip)
 (.exit 0)))
 (.seq (.block 1 (.seq (.region 0 [oL 71 true 7 2,
 oM 72 10,
 oQ 73 (.call 1 21 [(.t 71),(.t 72)]),
 oM 70 73,
 oE 74 70 0,
 oE 75 70 1,
 oM 11 74,
 oM 12 75])
 (.seq (.region 0 [oM 76 9,
 oM 77 10,
 oQ 78 (.call 1 22 [(.t 76),(.t 77)]),
 oM 13 78])
 (.seq (.region 0 [oM 79 12,
 oP 80 (.bin .neq (.t 79) (.c (.int .i64 0))),
 oM 81 80,
 oN 82 81 false 11,
 ⟨(some 83),.call 1 23 [(.t 82),(.c (.int .i64 1)),(.c (.int .i64 3))],(some (81,false)),none,[]⟩,
 oG 84 81 false (.un .not (.t 83)),
 oP 85 (.pick (.t 81) (.c (.bool true)) (.t 84)),
 oM 86 85,
 oN 87 86 false 13,
 oN 88 86 false 87,
 oN 89 88 true 11,
 oG 90 88 true (.bin .eql (.t 89) (.c (.int .i64 2))),
 oN 91 88 true 90,
 oG 92 91 false (.fieldAddr 0 (.t 3)),
 ⟨(some 93),.load false 1 (.t 92),(some (91,false)),none,[]⟩,
 oG 94 91 false (.fieldAddr 0 (.t 2)),
 oG 95 91 false (.fieldAddr 3 (.t 94)),
 ⟨(some 96),.load false 1 (.t 95),(some (91,false)),none,[]⟩,
 oN 97 91 false 10,
 oG 98 91 false (.idxSl 4 (.t 96) (.t 97)),
 oG 99 91 false (.fieldAddr 0 (.t 98)),
 ⟨(some 100),.load false 1 (.t 99),(some (91,false)),none,[]⟩,
 ⟨(some 101),.call 1 22 [(.t 93),(.t 100)],(some (91,false)),none,[]⟩,
 oG 102 91 false (.un .not (.t 101)),
 oG 103 88 true (.pick (.t 91) (.c (.bool true)) (.t 102)),
 oG 104 86 false (.pick (.t 88) (.t 103) (.c (.bool false))),
 oP 105 (.pick (.t 86) (.c (.bool true)) (.t 104)),
 oM 106 105,
 oN 107 106 false 13,
 oG 108 106 false (.un .not (.t 107)),
 oN 109 106 false 108,
 oN 110 109 true 11,
 oG 111 109 true (.bin .eql (.t 110) (.c (.int .i64 1))),
 oG 112 106 false (.pick (.t 109) (.t 111) (.c (.bool false))),
 oP 113 (.pick (.t 106) (.c (.bool true)) (.t 112))])
 (.cond (.t 113) (.seq (.region 0 [oP 4 (.move (.c (.bool false)))])
 (.ret))
 (.skip))))))
 (.region 0 [oM 68 10,
 oP 69 (.bin .add (.t 68) (.c (.int .i64 1))),
 oM 10 69]))))))
 (.seq (.seq (.region 0 [oC 14 0])
 (.block 2 (.loop (.seq (.seq (.region 0 [oM 114 14,
 oF 115 1 3,
 oL 116 false 1 115,
 oP 117 (.lenS (.t 116)),
 oP 118 (.bin .lss (.t 114) (.t 117))])
 (.cond (.t 118) (.skip)
 (.exit 2)))
 (.seq (.block 3 (.seq (.region 0 [oC 15 0])
 (.block 4 (.loop (.seq (.seq (.region 0 [oM 121 15,
 oF 122 1 3,
 oL 123 false 1 122,
 oM 124 14,
 oD 125 1 123 124,
 oL 126 false 1 125,
 oP 127 (.lenS (.t 126)),
 oP 128 (.bin .lss (.t 121) (.t 127))])
 (.cond (.t 128) (.skip)
 (.exit 4)))
 (.seq (.block 5 (.seq (.region 0 [oL 132 true 7 2,
 oM 133 14,
 oM 134 15,
 oQ 135 (.call 1 24 [(.t 132),(.t 133),(.t 134)]),
 oM 131 135,
 oE 136 131 0,
 oE 137 131 1,
 oQ 16 (.alloc [.int .i64 0,.int .i64 0]),
 ⟨none,.store 2 (.t 16) (.t 136),none,none,[]⟩,
 oM 17 137])
 (.seq (.region 0 [oM 138 17,
 oP 139 (.bin .neq (.t 138) (.c (.int .i64 0))),
 oM 140 139,
 ⟨(some 141),.load true 2 (.t 16),(some (140,false)),none,[]⟩,
 oG 142 140 false (.fieldAddr 1 (.t 3)),
 ⟨(some 143),.load false 1 (.t 142),(some (140,false)),none,[]⟩,
 oN 144 140 false 14,
 oG 145 140 false (.idxSl 1 (.t 143) (.t 144)),
 ⟨(some 146),.load false 1 (.t 145),(some (140,false)),none,[]⟩,
 oN 147 140 false 15,
 oG 148 140 false (.idxSl 1 (.t 146) (.t 147)),
 ⟨(some 149),.load false 1 (.t 148),(some (140,false)),none,[]⟩,
 ⟨(some 150),.call 1 25 [(.t 141),(.t 149)],(some (140,false)),none,[]⟩,
 oG 151 140 false (.un .not (.t 150)),
 oP 152 (.pick (.t 140) (.c (.bool true)) (.t 151))])
 (.cond (.t 152) (.seq (.region 0 [oP 4 (.move (.c (.bool false)))])
 (.ret))
 (.skip)))))
 (.region 0 [oM 129 15,
 oP 130 (.bin .add (.t 129) (.c (.int .i64 1))),
 oM 15 130])))))))
 (.region 0 [oM 119 14,
 oP 120 (.bin .add (.t 119) (.c (.int .i64 1))),
 oM 14 120]))))))
 (.seq (.region 0 [oQ 153 (.call 1 17 []),
 oM 4 153])
 (.ret)))))))))⟩
def f4 : AFn:=⟨182,[.tmp 6],
 .seq (.region 0 [oQ 3 (.box (.t 0)),
 oP 6 (.move (.c (.bool false)))])
 (.seq (.seq (.region 0 [oL 20 true 7 3,
 oQ 21 (.call 1 15 [(.t 20)]),
 oP 22 (.un .not (.t 21)),
 oM 23 22,
 oN 24 23 false 1,
 oG 25 23 false (.lenS (.t 24)),
 oG 26 23 false (.bin .gtr (.t 25) (.c (.int .i64 40))),
 oP 27 (.pick (.t 23) (.c (.bool true)) (.t 26)),
 oM 28 27,
 ⟨(some 29),.load true 7 (.t 3),(some (28,false)),none,[]⟩,
 oN 30 28 false 1,
 ⟨(some 31),.call 1 26 [(.t 29),(.t 30)],(some (28,false)),none,[]⟩,
 oG 32 28 false (.un .not (.t 31)),
 oP 33 (.pick (.t 28) (.c (.bool true)) (.t 32))])
 (.cond (.t 33) (.seq (.region 0 [oQ 34 (.call 1 17 []),
 oM 6 34])
 (.ret))
 (.skip)))
 (.seq (.region 0 [oL 36 true 7 3,
 oQ 37 (.call 1 27 [(.t 36)]),
 oM 35 37,
 oE 38 35 0,
 oE 39 35 1,
 oM 7 38,
 oM 8 39])
 (.seq (.region 0 [oL 41 true 7 3,
 oQ 42 (.call 1 28 [(.t 41)]),
 oM 40 42,
 oE 43 40 0,
 oE 44 40 1,
 oM 9 43,
 oM 10 44])
 (.seq (.seq (.region 0 [oM 45 8,
 oP 46 (.bin .neq (.t 45) (.c (.int .i64 0))),
 oM 47 46,
 oN 48 47 false 10,
 oG 49 47 false (.bin .neq (.t 48) (.c (.int .i64 0))),
 oP 50 (.pick (.t 47) (.c (.bool true)) (.t 49)),
 oM 51 50,
 oN 52 51 false 7,
 oG 53 51 false (.lenS (.t 52)),
 oG 54 51 false (.fieldAddr 0 (.t 3)),
 oG 55 51 false (.fieldAddr 1 (.t 54)),
 ⟨(some 56),.load false 1 (.t 55),(some (51,false)),none,[]⟩,
 oG 57 51 false (.bin .gtr (.t 53) (.t 56)),
 oP 58 (.pick (.t 51) (.c (.bool true)) (.t 57)),
 oM 59 58,
 oN 60 59 false 9,
 oG 61 59 false (.lenS (.t 60)),
 oN 62 59 false 1,
 oG 63 59 false (.lenS (.t 62)),
 oG 64 59 false (.bin .gtr (.t 61) (.t 63)),
 oP 65 (.pick (.t 59) (.c (.bool true)) (.t 64)),
 oM 66 65,
 ⟨(some 67),.load true 7 (.t 3),(some (66,false)),none,[]⟩,
 oN 68 66 false 9,
 ⟨(some 69),.call 1 26 [(.t 67),(.t 68)],(some (66,false)),none,[]⟩,
 oG 70 66 false (.un .not (.t 69)),
 oP 71 (.pick (.t 66) (.c (.bool true)) (.t 70)),
 oM 72 71,
 oN 73 72 false 9,
 oG 74 72 false (.lenS (.t 73)),
 oN 75 72 false 1,
 oG 76 72 false (.lenS (.t 75)),
 oG 77 72 false (.bin .eql (.t 74) (.t 76)),
 oN 78 72 false 77,
 oN 79 78 true 1,
 oN 80 78 true 9,
 ⟨(some 81),.call 1 29 [(.t 79),(.t 80)],(some (78,true)),none,[]⟩,
 oG 82 72 false (.pick (.t 78) (.t 81) (.c (.bool false))),
 oP 83 (.pick (.t 72) (.c (.bool true)) (.t 82))])
 (.cond (.t 83) (.seq (.region 0 [oP 6 (.move (.c (.bool false)))])
 (.ret))
 (.skip)))
 (.seq (.seq (.region 0 [oC 11 0])
 (.block 0 (.loop (.seq (.seq (.region 0 [oM 84 11,
 oM 85 7,
 oP 86 (.lenS (.t 85)),
 oP 87 (.bin .lss (.t 84) (.t 86))])
 (.cond (.t 87) (.skip)
 (.exit 0)))
 (.seq (.block 1 (.seq (.region 0 [oM 90 1,
 oM 91 7,
 oM 92 11,
 oD 93 1 91 92,
 oL 94 false 1 93,
 oQ 95 (.call 1 22 [(.t 90),(.t 94)]),
 oP 96 (.un .not (.t 95))])
 (.cond (.t 96) (.seq (.region 0 [oP 6 (.move (.c (.bool false)))])
 (.ret))
 (.skip))))
 (.region 0 [oM 88 11,
 oP 89 (.bin .add (.t 88) (.c (.int .i64 1))),
 oM 11 89]))))))
 (.seq (.seq (.region 0 [oC 12 0])
 (.block 2 (.loop (.seq (.seq (.region 0 [oM 97 12,
 oF 98 0 3,
 oF 99 1 98,
 oL 100 false 1 99,
 oP 101 (.bin .lss (.t 97) (.t 100))])
 (.cond (.t 101) (.skip)
 (.exit 2)))
 (.seq (.block 3 (.seq (.region 0 [oL 105 true 7 3,
 oM 106 12,
 oQ 107 (.call 1 30 [(.t 105),(.t 106)]),
 oM 104 107,
 oE 108 104 0,
 oE 109 104 1,
 oM 13 108,
 oM 14 109])
 (.seq (.region 0 [oM 110 1,
 oM 111 12,
 oQ 112 (.call 1 22 [(.t 110),(.t 111)]),
 oM 15 112])
 (.seq (.region 0 [oM 113 14,
 oP 114 (.bin .neq (.t 113) (.c (.int .i64 0))),
 oM 115 114,
 oN 116 115 false 13,
 ⟨(some 117),.call 1 23 [(.t 116),(.c (.int .i64 1)),(.c (.int .i64 3))],(some (115,false)),none,[]⟩,
 oG 118 115 false (.un .not (.t 117)),
 oP 119 (.pick (.t 115) (.c (.bool true)) (.t 118)),
 oM 120 119,
 oN 121 120 false 15,
 oN 122 120 false 121,
 oN 123 122 true 13,
 oG 124 122 true (.bin .eql (.t 123) (.c (.int .i64 2))),
 oG 125 120 false (.pick (.t 122) (.t 124) (.c (.bool false))),
 oP 126 (.pick (.t 120) (.c (.bool true)) (.t 125)),
 oM 127 126,
 oN 128 127 false 15,
 oG 129 127 false (.un .not (.t 128)),
 oN 130 127 false 129,
 oN 131 130 true 13,
 oG 132 130 true (.bin .eql (.t 131) (.c (.int .i64 1))),
 oG 133 127 false (.pick (.t 130) (.t 132) (.c (.bool false))),
 oP 134 (.pick (.t 127) (.c (.bool true)) (.t 133)),
 oM 135 134,
 oN 136 135 false 13,
 oG 137 135 false (.bin .eql (.t 136) (.c (.int .i64 1))),
 oN 138 135 false 7,
 oN 139 135 false 12,
 ⟨(some 140),.call 1 22 [(.t 138),(.t 139)],(some (135,false)),none,[]⟩,
 oG 141 135 false (.eqB true (.t 137) (.t 140)),
 oP 142 (.pick (.t 135) (.c (.bool true)) (.t 141))])
 (.cond (.t 142) (.seq (.region 0 [oP 6 (.move (.c (.bool false)))])
 (.ret))
 (.skip))))))
 (.region 0 [oM 102 12,
 oP 103 (.bin .add (.t 102) (.c (.int .i64 1))),
 oM 12 103]))))))
 (.seq (.region 0 [oP 16 (.move (.c (.nils)))])
 (.seq (.seq (.region 0 [oC 17 0])
 (.block 4 (.loop (.seq (.seq (.region 0 [oM 143 17,
 oF 144 0 3,
 oF 145 1 144,
 oL 146 false 1 145,
 oP 147 (.bin .lss (.t 143) (.t 146))])
 (.cond (.t 147) (.skip)
 (.exit 4)))
 (.seq (.block 5 (.seq (.region 0 [oM 150 17,
 oM 151 2,
 oP 152 (.bin .eql (.t 150) (.t 151)),
 oM 153 152,
 oN 154 153 false 1,
 oN 155 153 false 17,
 ⟨(some 156),.call 1 22 [(.t 154),(.t 155)],(some (153,false)),none,[]⟩,
 oP 157 (.pick (.t 153) (.c (.bool true)) (.t 156))])
 (.cond (.t 157) (.region 0 [oM 158 16,
 oM 159 17,
 oQ 160 (.litS 1 1 [.int .i64 0] [(0,(.t 159))]),
 oQ 161 (.append false 1 8 (.t 158) (.t 160)),
 oM 16 161])
 (.skip))))
 (.region 0 [oM 148 17,
 oP 149 (.bin .add (.t 148) (.c (.int .i64 1))),
 oM 17 149]))))))
 (.seq (.region 2 [⟨(some 163),.load true 7 (.t 3),none,none,[0,1]⟩,
 ⟨(some 164),.buildSlice 1 0 [.int .i64 0] [],none,(some 0),[]⟩,
 oM 165 16,
 ⟨(some 166),.append true 1 8 (.t 164) (.t 165),none,(some 1),[]⟩,
 oQ 167 (.call 1 18 [(.t 163),(.t 166)]),
 oM 162 167,
 oE 168 162 0,
 oE 169 162 1,
 oM 18 168,
 oM 19 169])
 (.seq (.region 0 [oM 170 19,
 oP 171 (.bin .eql (.t 170) (.c (.int .i64 0))),
 oM 172 171,
 oN 173 172 true 18,
 ⟨(some 174),.load true 7 (.t 3),(some (172,true)),none,[]⟩,
 oN 175 172 true 16,
 ⟨(some 176),.call 1 31 [(.t 174),(.t 175)],(some (172,true)),none,[]⟩,
 oG 177 172 true (.eqB false (.t 173) (.t 176)),
 oP 178 (.pick (.t 172) (.t 177) (.c (.bool false))),
 oM 179 178,
 ⟨(some 180),.call 1 17 [],(some (179,true)),none,[]⟩,
 oP 181 (.pick (.t 179) (.t 180) (.c (.bool false))),
 oM 6 181])
 (.ret)))))))))))⟩
def f5 : AFn:=⟨96,[.tmp 2],
 .seq (.region 0 [oQ 1 (.box (.t 0)),
 oP 2 (.move (.c (.bool false)))])
 (.seq (.seq (.region 0 [oL 12 true 7 1,
 oQ 13 (.call 1 15 [(.t 12)]),
 oP 14 (.un .not (.t 13))])
 (.cond (.t 14) (.seq (.region 0 [oQ 15 (.call 1 17 []),
 oM 2 15])
 (.ret))
 (.skip)))
 (.seq (.region 0 [oF 16 0 1,
 oL 17 true 4 16,
 oQ 18 (.call 1 32 [(.t 17)]),
 oM 3 18])
 (.seq (.region 0 [oL 20 true 7 1,
 oQ 21 (.call 1 19 [(.t 20)]),
 oM 19 21,
 oE 22 19 0,
 oE 23 19 1,
 oM 4 22,
 oM 5 23])
 (.seq (.region 0 [oL 25 true 7 1,
 oQ 26 (.call 1 28 [(.t 25)]),
 oM 24 26,
 oE 27 24 0,
 oE 28 24 1,
 oM 6 27,
 oM 7 28])
 (.seq (.region 0 [oL 30 true 7 1,
 oQ 31 (.call 1 27 [(.t 30)]),
 oM 29 31,
 oE 32 29 0,
 oE 33 29 1,
 oM 8 32,
 oM 9 33])
 (.seq (.region 0 [oL 35 true 7 1,
 oQ 36 (.call 1 33 [(.t 35)]),
 oM 34 36,
 oE 37 34 0,
 oE 38 34 1,
 oM 10 37,
 oM 11 38])
 (.seq (.seq (.region 0 [oM 39 5,
 oP 40 (.un .not (.t 39)),
 oM 41 40,
 oN 42 41 false 7,
 oN 43 41 false 9,
 oG 44 41 false (.bin .neq (.t 42) (.t 43)),
 oP 45 (.pick (.t 41) (.c (.bool true)) (.t 44)),
 oM 46 45,
 oN 47 46 false 7,
 oN 48 46 false 11,
 oG 49 46 false (.bin .neq (.t 47) (.t 48)),
 oP 50 (.pick (.t 46) (.c (.bool true)) (.t 49)),
 oM 51 50,
 oN 52 51 false 7,
 ⟨(some 53),.call 1 34 [(.t 52)],(some (51,false)),none,[]⟩,
 oG 54 51 false (.un .not (.t 53)),
 oP 55 (.pick (.t 51) (.c (.bool true)) (.t 54)),
 oM 56 55,
 oN 57 56 false 7,
 oG 58 56 false (.bin .eql (.t 57) (.c (.int .i64 0))),
 oN 59 56 false 4,
 oG 60 56 false (.bin .lss (.t 59) (.c (.int .i64 100))),
 oG 61 56 false (.eqB true (.t 58) (.t 60)),
 oP 62 (.pick (.t 56) (.c (.bool true)) (.t 61)),
 oM 63 62,
 oN 64 63 false 4,
 oG 65 63 false (.bin .eql (.t 64) (.c (.int .i64 0))),
 oN 66 63 false 3,
 oG 67 63 false (.eqB true (.t 65) (.t 66)),
 oP 68 (.pick (.t 63) (.c (.bool true)) (.t 67)),
 oM 69 68,
 oN 70 69 false 7,
 oG 71 69 false (.bin .eql (.t 70) (.c (.int .i64 0))),
 oN 72 69 false 71,
 oN 73 72 true 10,
 oG 74 72 true (.lenS (.t 73)),
 oN 75 72 true 4,
 oG 76 72 true (.bin .neq (.t 74) (.t 75)),
 oG 77 69 false (.pick (.t 72) (.t 76) (.c (.bool false))),
 oP 78 (.pick (.t 69) (.c (.bool true)) (.t 77))])
 (.cond (.t 78) (.seq (.region 0 [oP 2 (.move (.c (.bool false)))])
 (.ret))
 (.skip)))
 (.seq (.region 0 [oM 79 3,
 oP 80 (.un .not (.t 79)),
 oM 81 80,
 oN 82 81 false 7,
 oG 83 81 false (.bin .eql (.t 82) (.c (.int .i64 0))),
 oN 84 81 false 83,
 oN 85 84 true 6,
 oG 86 84 true (.lenS (.t 85)),
 oN 87 84 true 8,
 oG 88 84 true (.lenS (.t 87)),
 oG 89 84 true (.bin .add (.t 86) (.t 88)),
 oG 90 84 true (.bin .eql (.t 89) (.c (.int .i64 0))),
 oG 91 81 false (.pick (.t 84) (.t 90) (.c (.bool false))),
 oP 92 (.pick (.t 81) (.c (.bool true)) (.t 91)),
 oM 93 92,
 ⟨(some 94),.call 1 17 [],(some (93,true)),none,[]⟩,
 oP 95 (.pick (.t 93) (.t 94) (.c (.bool false))),
 oM 2 95])
 (.ret)))))))))⟩
def f7 : AFn:=⟨79,[.tmp 4],
 .seq (.region 0 [oQ 2 (.box (.t 0)),
 oQ 3 (.box (.t 1)),
 oP 4 (.move (.c (.bool false)))])
 (.seq (.region 0 [oL 12 true 7 2,
 oQ 13 (.call 1 35 [(.t 12)]),
 oQ 5 (.alloc [.int .i64 0,.int .i64 0,.nils,.nils,.int .i64 0,.int .i64 0,.nils]),
 ⟨none,.store 7 (.t 5) (.t 13),none,none,[]⟩])
 (.seq (.region 0 [oF 14 0 5,
 oF 15 3 14,
 oL 16 false 1 15,
 oL 17 true 4 3,
 oQ 18 (.litS 4 1 [.int .i64 0,.int .i64 0,.int .i64 0,.int .i64 0] [(0,(.t 17))]),
 oQ 19 (.append false 4 32 (.t 16) (.t 18)),
 oF 20 0 5,
 oF 21 3 20,
 ⟨none,.store 1 (.t 21) (.t 19),none,none,[]⟩])
 (.seq (.seq (.region 0 [oL 22 true 7 2,
 oQ 23 (.call 1 15 [(.t 22)]),
 oP 24 (.un .not (.t 23)),
 oM 25 24,
 ⟨(some 26),.load true 7 (.t 5),(some (25,false)),none,[]⟩,
 ⟨(some 27),.call 1 15 [(.t 26)],(some (25,false)),none,[]⟩,
 oG 28 25 false (.un .not (.t 27)),
 oP 29 (.pick (.t 25) (.c (.bool true)) (.t 28))])
 (.cond (.t 29) (.seq (.region 0 [oQ 30 (.call 1 17 []),
 oM 4 30])
 (.ret))
 (.skip)))
 (.seq (.region 0 [oL 31 true 7 2,
 oQ 32 (.call 1 36 [(.t 31)]),
 oL 33 true 7 5,
 oQ 34 (.call 1 36 [(.t 33)]),
 oM 6 32,
 oM 7 34])
 (.seq (.region 0 [oL 36 true 7 2,
 oQ 37 (.call 1 19 [(.t 36)]),
 oM 35 37,
 oE 38 35 0,
 oE 39 35 1,
 oM 8 38,
 oM 9 39])
 (.seq (.region 0 [oL 41 true 7 5,
 oQ 42 (.call 1 19 [(.t 41)]),
 oM 40 42,
 oE 43 40 0,
 oE 44 40 1,
 oM 10 43,
 oM 11 44])
 (.seq (.seq (.region 0 [oM 45 6,
 oP 46 (.bin .lss (.t 45) (.c (.int .i64 0))),
 oM 47 46,
 oN 48 47 false 7,
 oG 49 47 false (.bin .lss (.t 48) (.c (.int .i64 0))),
 oP 50 (.pick (.t 47) (.c (.bool true)) (.t 49)),
 oM 51 50,
 oN 52 51 false 7,
 oN 53 51 false 6,
 oG 54 51 false (.bin .gtr (.t 52) (.t 53)),
 oP 55 (.pick (.t 51) (.c (.bool true)) (.t 54)),
 oM 56 55,
 oN 57 56 false 9,
 oG 58 56 false (.un .not (.t 57)),
 oP 59 (.pick (.t 56) (.c (.bool true)) (.t 58)),
 oM 60 59,
 oN 61 60 false 11,
 oG 62 60 false (.un .not (.t 61)),
 oP 63 (.pick (.t 60) (.c (.bool true)) (.t 62)),
 oM 64 63,
 oN 65 64 false 10,
 oN 66 64 false 8,
 oG 67 64 false (.bin .lss (.t 65) (.t 66)),
 oP 68 (.pick (.t 64) (.c (.bool true)) (.t 67))])
 (.cond (.t 68) (.seq (.region 0 [oP 4 (.move (.c (.bool false)))])
 (.ret))
 (.skip)))
 (.seq (.region 0 [oM 69 7,
 oP 70 (.bin .eql (.t 69) (.c (.int .i64 0))),
 oM 71 70,
 ⟨(some 72),.load true 7 (.t 5),(some (71,false)),none,[]⟩,
 ⟨(some 73),.load true 7 (.t 2),(some (71,false)),none,[]⟩,
 ⟨(some 74),.call 1 37 [(.t 72),(.t 73)],(some (71,false)),none,[]⟩,
 oP 75 (.pick (.t 71) (.c (.bool true)) (.t 74)),
 oM 76 75,
 ⟨(some 77),.call 1 17 [],(some (76,true)),none,[]⟩,
 oP 78 (.pick (.t 76) (.t 77) (.c (.bool false))),
 oM 4 78])
 (.ret)))))))))⟩
def f15 : AFn:=⟨11,[.tmp 2],
 .seq (.region 0 [oQ 1 (.box (.t 0)),
 oP 2 (.move (.c (.bool false)))])
 (.seq (.region 0 [oL 3 true 7 1,
 oQ 4 (.call 1 58 [(.t 3)]),
 oP 5 (.un .not (.t 4)),
 oM 6 5,
 ⟨(some 7),.load true 7 (.t 1),(some (6,true)),none,[]⟩,
 ⟨(some 8),.call 1 49 [(.t 7)],(some (6,true)),none,[]⟩,
 oG 9 6 true (.bin .eql (.t 8) (.c (.int .i64 0))),
 oP 10 (.pick (.t 6) (.t 9) (.c (.bool false))),
 oM 2 10])
 (.ret))⟩
def f16 : AFn:=⟨44,[.tmp 4],
 .seq (.region 0 [oQ 2 (.box (.t 0)),
 oQ 3 (.box (.t 1)),
 oP 4 (.move (.c (.bool false)))])
 (.seq (.seq (.region 0 [oF 6 0 3,
 oL 7 false 1 6,
 oP 8 (.lenS (.t 7)),
 oP 9 (.bin .gtr (.t 8) (.c (.int .i64 40))),
 oM 10 9,
 oG 11 10 false (.fieldAddr 1 (.t 3)),
 ⟨(some 12),.load false 1 (.t 11),(some (10,false)),none,[]⟩,
 oG 13 10 false (.lenS (.t 12)),
 oG 14 10 false (.bin .gtr (.t 13) (.c (.int .i64 40))),
 oP 15 (.pick (.t 10) (.c (.bool true)) (.t 14)),
 oM 16 15,
 ⟨(some 17),.load true 7 (.t 2),(some (16,false)),none,[]⟩,
 oG 18 16 false (.fieldAddr 0 (.t 3)),
 ⟨(some 19),.load false 1 (.t 18),(some (16,false)),none,[]⟩,
 ⟨(some 20),.call 1 31 [(.t 17),(.t 19)],(some (16,false)),none,[]⟩,
 oG 21 16 false (.un .not (.t 20)),
 oP 22 (.pick (.t 16) (.c (.bool true)) (.t 21))])
 (.cond (.t 22) (.seq (.region 0 [oP 4 (.move (.c (.bool false)))])
 (.ret))
 (.skip)))
 (.seq (.seq (.region 0 [oC 5 0])
 (.block 0 (.loop (.seq (.seq (.region 0 [oM 23 5,
 oF 24 1 3,
 oL 25 false 1 24,
 oP 26 (.lenS (.t 25)),
 oP 27 (.bin .lss (.t 23) (.t 26))])
 (.cond (.t 27) (.skip)
 (.exit 0)))
 (.seq (.block 1 (.seq (.region 0 [oF 30 1 3,
 oL 31 false 1 30,
 oM 32 5,
 oD 33 1 31 32,
 oL 34 false 1 33,
 oP 35 (.lenS (.t 34)),
 oP 36 (.bin .gtr (.t 35) (.c (.int .i64 40)))])
 (.cond (.t 36) (.seq (.region 0 [oP 4 (.move (.c (.bool false)))])
 (.ret))
 (.skip))))
 (.region 0 [oM 28 5,
 oP 29 (.bin .add (.t 28) (.c (.int .i64 1))),
 oM 5 29]))))))
 (.seq (.region 0 [oL 37 true 7 2,
 oF 38 0 3,
 oL 39 false 1 38,
 oQ 40 (.call 1 67 [(.t 37),(.t 39)]),
 oF 41 1 3,
 oL 42 false 1 41,
 oQ 43 (.call 1 66 [(.t 40),(.t 42)]),
 oM 4 43])
 (.ret))))⟩
def f17 : AFn:=⟨99,[.tmp 0],
 .seq (.region 0 [oP 0 (.move (.c (.bool false)))])
 (.seq (.region 0 [oQ 16 (.call 1 68 []),
 oM 15 16,
 oE 17 15 0,
 oE 18 15 1,
 oQ 1 (.alloc [.int .i64 0,.int .i64 0,.nils,.nils,.int .i64 0,.int .i64 0,.nils]),
 oQ 2 (.alloc [.int .i64 0,.int .i64 0,.nils,.nils,.int .i64 0,.int .i64 0,.nils]),
 ⟨none,.store 7 (.t 1) (.t 17),none,none,[]⟩,
 ⟨none,.store 7 (.t 2) (.t 18),none,none,[]⟩])
 (.seq (.region 0 [oL 20 true 7 2,
 oQ 21 (.call 1 51 [(.t 20)]),
 oM 19 21,
 oE 22 19 0,
 oE 23 19 1,
 oM 3 22,
 oM 4 23])
 (.seq (.region 0 [oL 25 true 7 1,
 oQ 26 (.call 1 28 [(.t 25)]),
 oM 24 26,
 oE 27 24 0,
 oE 28 24 1,
 oM 5 27,
 oM 6 28])
 (.seq (.region 0 [oL 30 true 7 1,
 oQ 31 (.call 1 27 [(.t 30)]),
 oM 29 31,
 oE 32 29 0,
 oE 33 29 1,
 oM 7 32,
 oM 8 33])
 (.seq (.region 0 [oL 35 true 7 1,
 oQ 36 (.call 1 21 [(.t 35),(.c (.int .i64 2))]),
 oM 34 36,
 oE 37 34 0,
 oE 38 34 1,
 oM 9 37,
 oM 10 38])
 (.seq (.region 0 [oL 40 true 7 1,
 oQ 41 (.call 1 24 [(.t 40),(.c (.int .i64 1)),(.c (.int .i64 0))]),
 oM 39 41,
 oE 42 39 0,
 oE 43 39 1,
 oQ 11 (.alloc [.int .i64 0,.int .i64 0]),
 ⟨none,.store 2 (.t 11) (.t 42),none,none,[]⟩,
 oM 12 43])
 (.seq (.region 0 [oL 45 true 7 1,
 oQ 46 (.call 1 33 [(.t 45)]),
 oM 44 46,
 oE 47 44 0,
 oE 48 44 1,
 oM 13 47,
 oM 14 48])
 (.seq (.region 0 [oM 49 4,
 oP 50 (.bin .eql (.t 49) (.c (.int .i64 0))),
 oM 51 50,
 oN 52 51 true 6,
 oG 53 51 true (.bin .eql (.t 52) (.c (.int .i64 0))),
 oP 54 (.pick (.t 51) (.t 53) (.c (.bool false))),
 oM 55 54,
 oN 56 55 true 8,
 oG 57 55 true (.bin .eql (.t 56) (.c (.int .i64 0))),
 oP 58 (.pick (.t 55) (.t 57) (.c (.bool false))),
 oM 59 58,
 oN 60 59 true 10,
 oG 61 59 true (.bin .eql (.t 60) (.c (.int .i64 0))),
 oP 62 (.pick (.t 59) (.t 61) (.c (.bool false))),
 oM 63 62,
 oN 64 63 true 12,
 oG 65 63 true (.bin .eql (.t 64) (.c (.int .i64 0))),
 oP 66 (.pick (.t 63) (.t 65) (.c (.bool false))),
 oM 67 66,
 oN 68 67 true 14,
 oG 69 67 true (.bin .eql (.t 68) (.c (.int .i64 0))),
 oP 70 (.pick (.t 67) (.t 69) (.c (.bool false))),
 oM 71 70,
 oN 72 71 true 3,
 oG 73 71 true (.bin .eql (.t 72) (.c (.int .i64 3))),
 oP 74 (.pick (.t 71) (.t 73) (.c (.bool false))),
 oM 75 74,
 oN 76 75 true 5,
 ⟨(some 77),.litS 1 2 [.int .i64 0] [(0,(.c (.int .i64 0))),(1,(.c (.int .i64 3)))],(some (75,true)),none,[]⟩,
 ⟨(some 78),.call 1 50 [(.t 76),(.t 77)],(some (75,true)),none,[]⟩,
 oP 79 (.pick (.t 75) (.t 78) (.c (.bool false))),
 oM 80 79,
 oN 81 80 true 7,
 ⟨(some 82),.litS 1 1 [.int .i64 0] [(0,(.c (.int .i64 3)))],(some (80,true)),none,[]⟩,
 ⟨(some 83),.call 1 50 [(.t 81),(.t 82)],(some (80,true)),none,[]⟩,
 oP 84 (.pick (.t 80) (.t 83) (.c (.bool false))),
 oM 85 84,
 oN 86 85 true 9,
 oG 87 85 true (.bin .eql (.t 86) (.c (.int .i64 2))),
 oP 88 (.pick (.t 85) (.t 87) (.c (.bool false))),
 oM 89 88,
 ⟨(some 90),.load true 2 (.t 11),(some (89,true)),none,[]⟩,
 oG 91 89 true (.build [.int .i64 0,.int .i64 0] [(0,1,(.c (.int .i64 2))),(1,1,(.c (.int .i64 9)))]),
 oG 92 89 true (.eqS false [true,true] (.t 90) (.t 91)),
 oP 93 (.pick (.t 89) (.t 92) (.c (.bool false))),
 oM 94 93,
 oN 95 94 true 13,
 ⟨(some 96),.litS 1 2 [.int .i64 0] [(0,(.c (.int .i64 0))),(1,(.c (.int .i64 3)))],(some (94,true)),none,[]⟩,
 ⟨(some 97),.call 1 50 [(.t 95),(.t 96)],(some (94,true)),none,[]⟩,
 oP 98 (.pick (.t 94) (.t 97) (.c (.bool false))),
 oM 0 98])
 (.ret)))))))))⟩
def f18 : AFn:=⟨26,[.tmp 4,.tmp 5],
 .seq (.region 0 [oQ 2 (.box (.t 0)),
 oP 4 (.move (.c (.bool false))),
 oC 5 0])
 (.seq (.seq (.region 0 [oL 9 true 7 2,
 oQ 10 (.call 1 48 [(.t 9)]),
 oM 6 10])
 (.seq (.region 0 [oM 11 6,
 oP 12 (.bin .neq (.t 11) (.c (.int .i64 0)))])
 (.cond (.t 12) (.seq (.region 0 [oM 13 6,
 oP 4 (.move (.c (.bool false))),
 oM 5 13])
 (.ret))
 (.skip))))
 (.seq (.seq (.region 0 [oL 14 true 7 2,
 oM 15 1,
 oQ 16 (.call 1 69 [(.t 14),(.t 15)]),
 oP 17 (.un .not (.t 16))])
 (.cond (.t 17) (.seq (.region 0 [oP 4 (.move (.c (.bool false))),
 oC 5 0])
 (.ret))
 (.skip)))
 (.seq (.region 0 [oL 19 true 7 2,
 oP 20 (.build [.int .i64 0,.int .i64 0,.nils,.nils,.int .i64 0,.int .i64 0,.nils,.nils] [(0,7,(.t 19))]),
 oM 21 1,
 oQ 22 (.call 0 70 [(.t 20),(.t 21)]),
 oM 18 22,
 oE 23 18 0,
 oE 24 18 1,
 oQ 7 (.alloc [.nils,.int .i64 0,.int .i64 0,.nils,.nils]),
 ⟨none,.store 5 (.t 7) (.t 23),none,none,[]⟩,
 oM 8 24])
 (.seq (.region 0 [oM 25 8,
 oM 4 25,
 oC 5 0])
 (.ret)))))⟩
def f19 : AFn:=⟨28,[.tmp 2,.tmp 3],
 .seq (.region 0 [oQ 1 (.box (.t 0)),
 oC 2 0,
 oP 3 (.move (.c (.bool false)))])
 (.seq (.region 0 [oL 7 true 7 1,
 oQ 8 (.call 1 60 [(.t 7)]),
 oM 6 8,
 oE 9 6 0,
 oE 10 6 1,
 oM 4 9,
 oM 5 10])
 (.seq (.seq (.region 0 [oM 11 5,
 oP 12 (.bin .eql (.t 11) (.c (.int .i64 3)))])
 (.cond (.t 12) (.seq (.region 0 [oC 2 100,
 oP 3 (.move (.c (.bool true)))])
 (.ret))
 (.skip)))
 (.seq (.region 0 [oM 13 4,
 oM 14 5,
 oP 15 (.bin .eql (.t 14) (.c (.int .i64 0))),
 oM 16 15,
 oN 17 16 true 4,
 oG 18 16 true (.bin .geq (.t 17) (.c (.int .i64 0))),
 oP 19 (.pick (.t 16) (.t 18) (.c (.bool false))),
 oM 20 19,
 oN 21 20 true 4,
 oG 22 20 true (.fieldAddr 0 (.t 1)),
 oG 23 20 true (.fieldAddr 3 (.t 22)),
 ⟨(some 24),.load false 1 (.t 23),(some (20,true)),none,[]⟩,
 oG 25 20 true (.lenS (.t 24)),
 oG 26 20 true (.bin .leq (.t 21) (.t 25)),
 oP 27 (.pick (.t 20) (.t 26) (.c (.bool false))),
 oM 2 13,
 oM 3 27])
 (.ret))))⟩
def f20 : AFn:=⟨42,[.tmp 4],
 .seq (.region 0 [oQ 2 (.box (.t 0)),
 oP 4 (.move (.c (.nils)))])
 (.seq (.region 0 [oP 5 (.move (.c (.nils)))])
 (.seq (.seq (.region 0 [oC 6 0])
 (.block 0 (.loop (.seq (.seq (.region 0 [oM 8 6,
 oF 9 0 2,
 oF 10 3 9,
 oL 11 false 1 10,
 oP 12 (.lenS (.t 11)),
 oP 13 (.bin .lss (.t 8) (.t 12))])
 (.cond (.t 13) (.skip)
 (.exit 0)))
 (.seq (.block 1 (.seq (.region 0 [oF 16 0 2,
 oF 17 3 16,
 oL 18 false 1 17,
 oM 19 6,
 oD 20 4 18 19,
 oL 21 true 4 20,
 oQ 7 (.alloc [.int .i64 0,.int .i64 0,.int .i64 0,.int .i64 0]),
 ⟨none,.store 4 (.t 7) (.t 21),none,none,[]⟩])
 (.seq (.region 0 [oM 22 1,
 oF 23 0 7,
 oL 24 false 1 23,
 oD 25 1 22 24,
 oL 26 false 1 25,
 oF 27 1 7,
 oL 28 false 1 27,
 oD 29 1 26 28,
 oL 30 false 1 29,
 oF 31 2 7,
 oL 32 false 1 31,
 oF 33 3 7,
 oL 34 false 1 33,
 oQ 35 (.call 1 23 [(.t 30),(.t 32),(.t 34)]),
 oP 36 (.un .not (.t 35))])
 (.cond (.t 36) (.region 0 [oM 37 5,
 oM 38 6,
 oQ 39 (.litS 1 1 [.int .i64 0] [(0,(.t 38))]),
 oQ 40 (.append false 1 8 (.t 37) (.t 39)),
 oM 5 40])
 (.skip)))))
 (.region 0 [oM 14 6,
 oP 15 (.bin .add (.t 14) (.c (.int .i64 1))),
 oM 6 15]))))))
 (.seq (.region 0 [oM 41 5,
 oM 4 41])
 (.ret))))⟩
def f21 : AFn:=⟨22,[.tmp 4,.tmp 5],
 .seq (.region 0 [oQ 2 (.box (.t 0)),
 oC 4 0,
 oC 5 0])
 (.seq (.region 1 [⟨(some 9),.load true 7 (.t 2),none,none,[0]⟩,
 ⟨(some 10),.load true 7 (.t 2),none,none,[0]⟩,
 oM 11 1,
 ⟨(some 12),.call 1 72 [(.t 10),(.t 11)],none,none,[0]⟩,
 ⟨(some 13),.call 1 71 [(.t 9),(.t 12)],none,none,[0]⟩,
 oM 8 13,
 oE 14 8 0,
 oE 15 8 1,
 ⟨(some 6),.alloc [.int .i64 0,.int .i64 0,.nils,.nils,.int .i64 0,.int .i64 0,.nils,.nils],none,(some 0),[]⟩,
 ⟨none,.store 8 (.t 6) (.t 14),none,(some 0),[]⟩,
 oM 7 15])
 (.seq (.seq (.region 0 [oM 16 7,
 oP 17 (.bin .neq (.t 16) (.c (.int .i64 0)))])
 (.cond (.t 17) (.seq (.region 0 [oM 18 7,
 oC 4 0,
 oM 5 18])
 (.ret))
 (.skip)))
 (.seq (.region 0 [oL 19 true 8 6,
 oM 20 1,
 oQ 21 (.call 1 73 [(.t 19),(.t 20)]),
 oM 4 21,
 oC 5 0])
 (.ret))))⟩
def f22 : AFn:=⟨18,[.tmp 4],
 .seq (.region 0 [oP 4 (.move (.c (.bool false)))])
 (.seq (.seq (.region 0 [oC 5 0])
 (.block 0 (.loop (.seq (.seq (.region 0 [oM 6 5,
 oM 7 0,
 oP 8 (.lenS (.t 7)),
 oP 9 (.bin .lss (.t 6) (.t 8))])
 (.cond (.t 9) (.skip)
 (.exit 0)))
 (.seq (.block 1 (.seq (.region 0 [oM 12 0,
 oM 13 5,
 oD 14 1 12 13,
 oL 15 false 1 14,
 oM 16 1,
 oP 17 (.bin .eql (.t 15) (.t 16))])
 (.cond (.t 17) (.seq (.region 0 [oP 4 (.move (.c (.bool true)))])
 (.ret))
 (.skip))))
 (.region 0 [oM 10 5,
 oP 11 (.bin .add (.t 10) (.c (.int .i64 1))),
 oM 5 11]))))))
 (.seq (.region 0 [oP 4 (.move (.c (.bool false)))])
 (.ret)))⟩
def f23 : AFn:=⟨15,[.tmp 6],
 .seq (.region 0 [oP 6 (.move (.c (.bool false)))])
 (.seq (.region 0 [oM 7 1,
 oM 8 0,
 oP 9 (.bin .leq (.t 7) (.t 8)),
 oM 10 9,
 oN 11 10 true 0,
 oN 12 10 true 2,
 oG 13 10 true (.bin .leq (.t 11) (.t 12)),
 oP 14 (.pick (.t 10) (.t 13) (.c (.bool false))),
 oM 6 14])
 (.ret))⟩
def f24 : AFn:=⟨30,[.cell true 2 6,.tmp 7],
 .seq (.region 0 [oQ 3 (.box (.t 0)),
 oQ 4 (.box (.t 1)),
 oQ 5 (.box (.t 2)),
 oQ 6 (.alloc [.int .i64 0,.int .i64 0]),
 oC 7 0])
 (.seq (.region 1 [⟨(some 11),.load true 7 (.t 3),none,none,[0]⟩,
 ⟨(some 12),.load true 7 (.t 3),none,none,[0]⟩,
 ⟨(some 13),.load false 1 (.t 4),none,none,[0]⟩,
 ⟨(some 14),.call 1 74 [(.t 12),(.t 13)],none,none,[0]⟩,
 oM 15 14,
 ⟨(some 16),.load true 7 (.t 3),(some (15,true)),none,[0]⟩,
 ⟨(some 17),.load false 1 (.t 5),(some (15,true)),none,[0]⟩,
 ⟨(some 18),.call 1 75 [(.t 16),(.t 17)],(some (15,true)),none,[0]⟩,
 oP 19 (.pick (.t 15) (.t 18) (.c (.bool false))),
 ⟨(some 20),.call 1 71 [(.t 11),(.t 19)],none,none,[0]⟩,
 oM 10 20,
 oE 21 10 0,
 oE 22 10 1,
 ⟨(some 8),.alloc [.int .i64 0,.int .i64 0,.nils,.nils,.int .i64 0,.int .i64 0,.nils,.nils],none,(some 0),[]⟩,
 ⟨none,.store 8 (.t 8) (.t 21),none,(some 0),[]⟩,
 oM 9 22])
 (.seq (.seq (.region 0 [oM 23 9,
 oP 24 (.bin .neq (.t 23) (.c (.int .i64 0)))])
 (.cond (.t 24) (.seq (.region 0 [oP 25 (.build [.int .i64 0,.int .i64 0] []),
 oM 26 9,
 ⟨none,.store 2 (.t 6) (.t 25),none,none,[]⟩,
 oM 7 26])
 (.ret))
 (.skip)))
 (.seq (.region 0 [oL 27 true 8 8,
 oP 28 (.mkFn 77 [] [(.t 4),(.t 5)]),
 oQ 29 (.call 3 76 [(.t 27),(.t 28)]),
 ⟨none,.store 2 (.t 6) (.t 29),none,none,[]⟩,
 oC 7 0])
 (.ret))))⟩
def f25 : AFn:=⟨15,[.tmp 4],
 .seq (.region 0 [oQ 2 (.box (.t 0)),
 oP 4 (.move (.c (.bool false)))])
 (.seq (.region 0 [oF 5 0 2,
 oL 6 false 1 5,
 oM 7 1,
 oP 8 (.bin .leq (.t 6) (.t 7)),
 oM 9 8,
 oN 10 9 true 1,
 oG 11 9 true (.fieldAddr 1 (.t 2)),
 ⟨(some 12),.load false 1 (.t 11),(some (9,true)),none,[]⟩,
 oG 13 9 true (.bin .leq (.t 10) (.t 12)),
 oP 14 (.pick (.t 9) (.t 13) (.c (.bool false))),
 oM 4 14])
 (.ret))⟩
def f26 : AFn:=⟨14,[.tmp 4],
 .seq (.region 0 [oQ 2 (.box (.t 0)),
 oP 4 (.move (.c (.bool false)))])
 (.seq (.region 0 [oL 5 true 7 2,
 oM 6 1,
 oQ 7 (.call 1 31 [(.t 5),(.t 6)]),
 oM 8 7,
 ⟨(some 9),.load true 7 (.t 2),(some (8,true)),none,[]⟩,
 oN 10 8 true 1,
 ⟨(some 11),.call 1 67 [(.t 9),(.t 10)],(some (8,true)),none,[]⟩,
 ⟨(some 12),.call 1 32 [(.t 11)],(some (8,true)),none,[]⟩,
 oP 13 (.pick (.t 8) (.t 12) (.c (.bool false))),
 oM 4 13])
 (.ret))⟩
def f27 : AFn:=⟨32,[.tmp 2,.tmp 3],
 .seq (.region 0 [oQ 1 (.box (.t 0)),
 oP 2 (.move (.c (.nils))),
 oC 3 0])
 (.seq (.region 0 [oL 9 true 7 1,
 oQ 10 (.call 1 71 [(.t 9),(.c (.bool true))]),
 oM 8 10,
 oE 11 8 0,
 oE 12 8 1,
 oQ 4 (.alloc [.int .i64 0,.int .i64 0,.nils,.nils,.int .i64 0,.int .i64 0,.nils,.nils]),
 ⟨none,.store 8 (.t 4) (.t 11),none,none,[]⟩,
 oM 5 12])
 (.seq (.seq (.region 0 [oM 13 5,
 oP 14 (.bin .neq (.t 13) (.c (.int .i64 0)))])
 (.cond (.t 14) (.seq (.region 0 [oM 15 5,
 oP 2 (.move (.c (.nils))),
 oM 3 15])
 (.ret))
 (.skip)))
 (.seq (.region 0 [oP 6 (.move (.c (.nils)))])
 (.seq (.seq (.region 0 [oF 16 0 1,
 oF 17 1 16,
 oL 18 false 1 17,
 oC 19 0])
 (.block 0 (.loop (.seq (.region 0 [oP 20 (.bin .lss (.t 19) (.t 18))])
 (.seq (.cond (.t 20) (.skip)
 (.exit 0))
 (.seq (.block 1 (.seq (.region 0 [oM 21 19,
 oM 7 21])
 (.seq (.region 0 [oL 22 true 8 4,
 oM 23 7,
 oQ 24 (.call 1 79 [(.t 22),(.t 23)]),
 oP 25 (.bin .eql (.t 24) (.c (.int .i64 1)))])
 (.cond (.t 25) (.region 0 [oM 26 6,
 oM 27 7,
 oQ 28 (.litS 1 1 [.int .i64 0] [(0,(.t 27))]),
 oQ 29 (.append false 1 8 (.t 26) (.t 28)),
 oM 6 29])
 (.skip)))))
 (.region 0 [oP 30 (.bin .add (.t 19) (.c (.int .i64 1))),
 oM 19 30])))))))
 (.seq (.region 0 [oM 31 6,
 oM 2 31,
 oC 3 0])
 (.ret))))))⟩
def f28 : AFn:=⟨19,[.tmp 2,.tmp 3],
 .seq (.region 0 [oQ 1 (.box (.t 0)),
 oP 2 (.move (.c (.nils))),
 oC 3 0])
 (.seq (.region 0 [oL 7 true 7 1,
 oQ 8 (.call 1 71 [(.t 7),(.c (.bool true))]),
 oM 6 8,
 oE 9 6 0,
 oE 10 6 1,
 oQ 4 (.alloc [.int .i64 0,.int .i64 0,.nils,.nils,.int .i64 0,.int .i64 0,.nils,.nils]),
 ⟨none,.store 8 (.t 4) (.t 9),none,none,[]⟩,
 oM 5 10])
 (.seq (.seq (.region 0 [oM 11 5,
 oP 12 (.bin .neq (.t 11) (.c (.int .i64 0)))])
 (.cond (.t 12) (.seq (.region 0 [oM 13 5,
 oP 2 (.move (.c (.nils))),
 oM 3 13])
 (.ret))
 (.skip)))
 (.seq (.region 0 [oF 14 7 4,
 oL 15 false 1 14,
 oP 16 (.idxSl 5 (.t 15) (.c (.int .i64 0))),
 oF 17 0 16,
 oL 18 false 1 17,
 oM 2 18,
 oC 3 0])
 (.ret))))⟩
def f29 : AFn:=⟨36,[.tmp 4],
 .seq (.region 0 [oP 4 (.move (.c (.bool false)))])
 (.seq (.seq (.region 0 [oC 5 0])
 (.block 0 (.loop (.seq (.seq (.region 0 [oM 6 5,
 oM 7 0,
 oP 8 (.lenS (.t 7)),
 oP 9 (.bin .lss (.t 6) (.t 8)),
 oM 10 9,
 oN 11 10 true 5,
 oN 12 10 true 1,
 oG 13 10 true (.lenS (.t 12)),
 oG 14 10 true (.bin .lss (.t 11) (.t 13)),
 oP 15 (.pick (.t 10) (.t 14) (.c (.bool false)))])
 (.cond (.t 15) (.skip)
 (.exit 0)))
 (.seq (.block 1 (.seq (.region 0 [oM 18 0,
 oM 19 5,
 oD 20 1 18 19,
 oL 21 false 1 20,
 oM 22 1,
 oM 23 5,
 oD 24 1 22 23,
 oL 25 false 1 24,
 oP 26 (.bin .neq (.t 21) (.t 25))])
 (.cond (.t 26) (.seq (.region 0 [oM 27 0,
 oM 28 5,
 oD 29 1 27 28,
 oL 30 false 1 29,
 oM 31 1,
 oM 32 5,
 oD 33 1 31 32,
 oL 34 false 1 33,
 oP 35 (.bin .lss (.t 30) (.t 34)),
 oM 4 35])
 (.ret))
 (.skip))))
 (.region 0 [oM 16 5,
 oP 17 (.bin .add (.t 16) (.c (.int .i64 1))),
 oM 5 17]))))))
 (.seq (.region 0 [oP 4 (.move (.c (.bool false)))])
 (.ret)))⟩
def f30 : AFn:=⟨22,[.tmp 4,.tmp 5],
 .seq (.region 0 [oQ 2 (.box (.t 0)),
 oC 4 0,
 oC 5 0])
 (.seq (.region 1 [⟨(some 9),.load true 7 (.t 2),none,none,[0]⟩,
 ⟨(some 10),.load true 7 (.t 2),none,none,[0]⟩,
 oM 11 1,
 ⟨(some 12),.call 1 74 [(.t 10),(.t 11)],none,none,[0]⟩,
 ⟨(some 13),.call 1 71 [(.t 9),(.t 12)],none,none,[0]⟩,
 oM 8 13,
 oE 14 8 0,
 oE 15 8 1,
 ⟨(some 6),.alloc [.int .i64 0,.int .i64 0,.nils,.nils,.int .i64 0,.int .i64 0,.nils,.nils],none,(some 0),[]⟩,
 ⟨none,.store 8 (.t 6) (.t 14),none,(some 0),[]⟩,
 oM 7 15])
 (.seq (.seq (.region 0 [oM 16 7,
 oP 17 (.bin .neq (.t 16) (.c (.int .i64 0)))])
 (.cond (.t 17) (.seq (.region 0 [oM 18 7,
 oC 4 0,
 oM 5 18])
 (.ret))
 (.skip)))
 (.seq (.region 0 [oL 19 true 8 6,
 oM 20 1,
 oQ 21 (.call 1 79 [(.t 19),(.t 20)]),
 oM 4 21,
 oC 5 0])
 (.ret))))⟩
def f31 : AFn:=⟨44,[.tmp 4],
 .seq (.region 0 [oQ 2 (.box (.t 0)),
 oP 4 (.move (.c (.bool false)))])
 (.seq (.seq (.region 0 [oM 7 1,
 oF 8 0 2,
 oF 9 1 8,
 oL 10 false 1 9,
 oP 11 (.bin .sub (.t 10) (.c (.int .i64 1))),
 oQ 12 (.call 1 42 [(.t 7),(.c (.int .i64 0)),(.t 11)]),
 oP 13 (.un .not (.t 12)),
 oM 14 13,
 oN 15 14 false 1,
 oG 16 14 false (.lenS (.t 15)),
 oG 17 14 false (.fieldAddr 4 (.t 2)),
 ⟨(some 18),.load false 1 (.t 17),(some (14,false)),none,[]⟩,
 oG 19 14 false (.bin .gtr (.t 16) (.t 18)),
 oP 20 (.pick (.t 14) (.c (.bool true)) (.t 19))])
 (.cond (.t 20) (.seq (.region 0 [oP 4 (.move (.c (.bool false)))])
 (.ret))
 (.skip)))
 (.seq (.region 0 [oC 5 0])
 (.seq (.seq (.region 0 [oC 6 0])
 (.block 0 (.loop (.seq (.seq (.region 0 [oM 21 6,
 oF 22 0 2,
 oF 23 1 22,
 oL 24 false 1 23,
 oP 25 (.bin .lss (.t 21) (.t 24))])
 (.cond (.t 25) (.skip)
 (.exit 0)))
 (.seq (.block 1 (.seq (.seq (.region 0 [oM 28 1,
 oM 29 6,
 oQ 30 (.call 1 22 [(.t 28),(.t 29)]),
 oP 31 (.un .not (.t 30))])
 (.cond (.t 31) (.seq (.region 0 [oC 5 0])
 (.exit 1))
 (.skip)))
 (.seq (.region 0 [oM 32 5,
 oP 33 (.bin .add (.t 32) (.c (.int .i64 1))),
 oM 5 33])
 (.seq (.region 0 [oM 34 5,
 oF 35 5 2,
 oL 36 false 1 35,
 oP 37 (.bin .gtr (.t 34) (.t 36)),
 oM 38 37,
 oG 39 38 false (.fieldAddr 6 (.t 2)),
 ⟨(some 40),.load false 1 (.t 39),(some (38,false)),none,[]⟩,
 oN 41 38 false 6,
 ⟨(some 42),.call 1 22 [(.t 40),(.t 41)],(some (38,false)),none,[]⟩,
 oP 43 (.pick (.t 38) (.c (.bool true)) (.t 42))])
 (.cond (.t 43) (.seq (.region 0 [oP 4 (.move (.c (.bool false)))])
 (.ret))
 (.skip))))))
 (.region 0 [oM 26 6,
 oP 27 (.bin .add (.t 26) (.c (.int .i64 1))),
 oM 6 27]))))))
 (.seq (.region 0 [oP 4 (.move (.c (.bool true)))])
 (.ret)))))⟩
def f32 : AFn:=⟨7,[.tmp 2],
 .seq (.region 0 [oQ 1 (.box (.t 0)),
 oP 2 (.move (.c (.bool false)))])
 (.seq (.region 0 [oL 3 true 4 1,
 oL 4 true 4 1,
 oQ 5 (.call 2 81 [(.t 4)]),
 oQ 6 (.call 0 80 [(.t 3),(.t 5)]),
 oM 2 6])
 (.ret))⟩
def f33 : AFn:=⟨16,[.tmp 2,.tmp 3],
 .seq (.region 0 [oQ 1 (.box (.t 0)),
 oP 2 (.move (.c (.nils))),
 oC 3 0])
 (.seq (.region 0 [oL 7 true 7 1,
 oQ 8 (.call 1 71 [(.t 7),(.c (.bool true))]),
 oM 6 8,
 oE 9 6 0,
 oE 10 6 1,
 oQ 4 (.alloc [.int .i64 0,.int .i64 0,.nils,.nils,.int .i64 0,.int .i64 0,.nils,.nils]),
 ⟨none,.store 8 (.t 4) (.t 9),none,none,[]⟩,
 oM 5 10])
 (.seq (.seq (.region 0 [oM 11 5,
 oP 12 (.bin .neq (.t 11) (.c (.int .i64 0)))])
 (.cond (.t 12) (.seq (.region 0 [oM 13 5,
 oP 2 (.move (.c (.nils))),
 oM 3 13])
 (.ret))
 (.skip)))
 (.seq (.region 0 [oL 14 true 8 4,
 oQ 15 (.call 1 82 [(.t 14)]),
 oM 2 15,
 oC 3 0])
 (.ret))))⟩
def f34 : AFn:=⟨9,[.tmp 2],
 .seq (.region 0 [oP 2 (.move (.c (.bool false)))])
 (.seq (.region 0 [oM 3 0,
 oP 4 (.bin .eql (.t 3) (.c (.int .i64 0))),
 oM 5 4,
 oN 6 5 false 0,
 oG 7 5 false (.bin .eql (.t 6) (.c (.int .i64 3))),
 oP 8 (.pick (.t 5) (.c (.bool true)) (.t 7)),
 oM 2 8])
 (.ret))⟩
def f35 : AFn:=⟨15,[.cell true 7 2],
 .seq (.region 0 [oQ 1 (.box (.t 0)),
 oQ 2 (.alloc [.int .i64 0,.int .i64 0,.nils,.nils,.int .i64 0,.int .i64 0,.nils])])
 (.seq (.region 2 [oF 3 0 1,
 ⟨(some 4),.load true 4 (.t 3),none,none,[0,1]⟩,
 ⟨(some 5),.call 1 83 [(.t 4)],none,none,[0,1]⟩,
 oF 6 4 1,
 ⟨(some 7),.load false 1 (.t 6),none,none,[0,1]⟩,
 oF 8 5 1,
 ⟨(some 9),.load false 1 (.t 8),none,none,[0,1]⟩,
 ⟨(some 10),.buildSlice 1 0 [.int .i64 0] [],none,(some 0),[]⟩,
 oF 11 6 1,
 ⟨(some 12),.load false 1 (.t 11),none,none,[0,1]⟩,
 ⟨(some 13),.append true 1 8 (.t 10) (.t 12),none,(some 1),[]⟩,
 oP 14 (.build [.int .i64 0,.int .i64 0,.nils,.nils,.int .i64 0,.int .i64 0,.nils] [(0,4,(.t 5)),(4,1,(.t 7)),(5,1,(.t 9)),(6,1,(.t 13))]),
 ⟨none,.store 7 (.t 2) (.t 14),none,none,[]⟩])
 (.ret))⟩
def f42 : AFn:=⟨38,[.tmp 6],
 .seq (.region 0 [oP 6 (.move (.c (.bool false)))])
 (.seq (.seq (.region 0 [oC 7 0])
 (.block 0 (.loop (.seq (.seq (.region 0 [oM 8 7,
 oM 9 0,
 oP 10 (.lenS (.t 9)),
 oP 11 (.bin .lss (.t 8) (.t 10))])
 (.cond (.t 11) (.skip)
 (.exit 0)))
 (.seq (.block 1 (.seq (.region 0 [oM 14 0,
 oM 15 7,
 oD 16 1 14 15,
 oL 17 false 1 16,
 oM 18 1,
 oM 19 2,
 oQ 20 (.call 1 23 [(.t 17),(.t 18),(.t 19)]),
 oP 21 (.un .not (.t 20)),
 oM 22 21,
 oN 23 22 false 7,
 oG 24 22 false (.bin .gtr (.t 23) (.c (.int .i64 0))),
 oN 25 22 false 24,
 oN 26 25 true 0,
 oN 27 25 true 7,
 oG 28 25 true (.idxSl 1 (.t 26) (.t 27)),
 ⟨(some 29),.load false 1 (.t 28),(some (25,true)),none,[]⟩,
 oN 30 25 true 0,
 oN 31 25 true 7,
 oG 32 25 true (.bin .sub (.t 31) (.c (.int .i64 1))),
 oG 33 25 true (.idxSl 1 (.t 30) (.t 32)),
 ⟨(some 34),.load false 1 (.t 33),(some (25,true)),none,[]⟩,
 oG 35 25 true (.bin .leq (.t 29) (.t 34)),
 oG 36 22 false (.pick (.t 25) (.t 35) (.c (.bool false))),
 oP 37 (.pick (.t 22) (.c (.bool true)) (.t 36))])
 (.cond (.t 37) (.seq (.region 0 [oP 6 (.move (.c (.bool false)))])
 (.ret))
 (.skip))))
 (.region 0 [oM 12 7,
 oP 13 (.bin .add (.t 12) (.c (.int .i64 1))),
 oM 7 13]))))))
 (.seq (.region 0 [oP 6 (.move (.c (.bool true)))])
 (.ret)))⟩
def f46 : AFn:=⟨12,[.tmp 2],
 .seq (.region 0 [oQ 1 (.box (.t 0)),
 oP 2 (.move (.c (.bool false)))])
 (.seq (.region 0 [oF 3 0 1,
 oL 4 true 4 3,
 oQ 5 (.call 1 90 [(.t 4)]),
 oM 6 5,
 oG 7 6 false (.fieldAddr 6 (.t 1)),
 ⟨(some 8),.load false 1 (.t 7),(some (6,false)),none,[]⟩,
 oG 9 6 false (.lenS (.t 8)),
 oG 10 6 false (.bin .gtr (.t 9) (.c (.int .i64 40))),
 oP 11 (.pick (.t 6) (.c (.bool true)) (.t 10)),
 oM 2 11])
 (.ret))⟩
def f48 : AFn:=⟨6,[.tmp 2],
 .seq (.region 0 [oQ 1 (.box (.t 0)),
 oC 2 0])
 (.seq (.seq (.region 0 [oL 3 true 7 1,
 oQ 4 (.call 1 91 [(.t 3)]),
 oP 5 (.un .not (.t 4))])
 (.cond (.t 5) (.seq (.region 0 [oC 2 110])
 (.ret))
 (.skip)))
 (.seq (.region 0 [oC 2 0])
 (.ret)))⟩
def f49 : AFn:=⟨29,[.tmp 2],
 .seq (.region 0 [oQ 1 (.box (.t 0)),
 oC 2 0])
 (.seq (.seq (.region 0 [oF 3 0 1,
 oL 4 true 4 3,
 oQ 5 (.call 1 92 [(.t 4)]),
 oP 6 (.bin .neq (.t 5) (.c (.int .i64 0))),
 oM 7 6,
 oG 8 7 false (.fieldAddr 4 (.t 1)),
 ⟨(some 9),.load false 1 (.t 8),(some (7,false)),none,[]⟩,
 ⟨(some 10),.call 1 89 [(.t 9),(.c (.int .i64 0)),(.c (.int .i64 5))],(some (7,false)),none,[]⟩,
 oG 11 7 false (.un .not (.t 10)),
 oP 12 (.pick (.t 7) (.c (.bool true)) (.t 11)),
 oM 13 12,
 oG 14 13 false (.fieldAddr 5 (.t 1)),
 ⟨(some 15),.load false 1 (.t 14),(some (13,false)),none,[]⟩,
 ⟨(some 16),.call 1 89 [(.t 15),(.c (.int .i64 0)),(.c (.int .i64 5))],(some (13,false)),none,[]⟩,
 oG 17 13 false (.un .not (.t 16)),
 oP 18 (.pick (.t 13) (.c (.bool true)) (.t 17)),
 oM 19 18,
 oG 20 19 false (.fieldAddr 6 (.t 1)),
 ⟨(some 21),.load false 1 (.t 20),(some (19,false)),none,[]⟩,
 oG 22 19 false (.fieldAddr 0 (.t 1)),
 oG 23 19 false (.fieldAddr 1 (.t 22)),
 ⟨(some 24),.load false 1 (.t 23),(some (19,false)),none,[]⟩,
 oG 25 19 false (.bin .sub (.t 24) (.c (.int .i64 1))),
 ⟨(some 26),.call 1 42 [(.t 21),(.c (.int .i64 0)),(.t 25)],(some (19,false)),none,[]⟩,
 oG 27 19 false (.un .not (.t 26)),
 oP 28 (.pick (.t 19) (.c (.bool true)) (.t 27))])
 (.cond (.t 28) (.seq (.region 0 [oC 2 110])
 (.ret))
 (.skip)))
 (.seq (.region 0 [oC 2 0])
 (.ret)))⟩
def f50 : AFn:=⟨26,[.tmp 4],
 .seq (.region 0 [oP 4 (.move (.c (.bool false)))])
 (.seq (.seq (.region 0 [oM 6 0,
 oP 7 (.lenS (.t 6)),
 oM 8 1,
 oP 9 (.lenS (.t 8)),
 oP 10 (.bin .neq (.t 7) (.t 9))])
 (.cond (.t 10) (.seq (.region 0 [oP 4 (.move (.c (.bool false)))])
 (.ret))
 (.skip)))
 (.seq (.seq (.region 0 [oC 5 0])
 (.block 0 (.loop (.seq (.seq (.region 0 [oM 11 5,
 oM 12 0,
 oP 13 (.lenS (.t 12)),
 oP 14 (.bin .lss (.t 11) (.t 13))])
 (.cond (.t 14) (.skip)
 (.exit 0)))
 (.seq (.block 1 (.seq (.region 0 [oM 17 0,
 oM 18 5,
 oD 19 1 17 18,
 oL 20 false 1 19,
 oM 21 1,
 oM 22 5,
 oD 23 1 21 22,
 oL 24 false 1 23,
 oP 25 (.bin .neq (.t 20) (.t 24))])
 (.cond (.t 25) (.seq (.region 0 [oP 4 (.move (.c (.bool false)))])
 (.ret))
 (.skip))))
 (.region 0 [oM 15 5,
 oP 16 (.bin .add (.t 15) (.c (.int .i64 1))),
 oM 5 16]))))))
 (.seq (.region 0 [oP 4 (.move (.c (.bool true)))])
 (.ret))))⟩
def f51 : AFn:=⟨14,[.tmp 2,.tmp 3],
 .seq (.region 0 [oQ 1 (.box (.t 0)),
 oC 2 0,
 oC 3 0])
 (.seq (.seq (.region 0 [oL 5 true 7 1,
 oQ 6 (.call 1 48 [(.t 5)]),
 oM 4 6])
 (.seq (.region 0 [oM 7 4,
 oP 8 (.bin .neq (.t 7) (.c (.int .i64 0)))])
 (.cond (.t 8) (.seq (.region 0 [oM 9 4,
 oC 2 0,
 oM 3 9])
 (.ret))
 (.skip))))
 (.seq (.region 0 [oL 10 true 7 1,
 oQ 11 (.call 0 93 [(.t 10)]),
 oP 12 (.field false 7 1 (.t 11)),
 oP 13 (.lenS (.t 12)),
 oM 2 13,
 oC 3 0])
 (.ret)))⟩
def f58 : AFn:=⟨22,[.tmp 2],
 .seq (.region 0 [oQ 1 (.box (.t 0)),
 oP 2 (.move (.c (.bool false)))])
 (.seq (.region 0 [oL 3 true 7 1,
 oQ 4 (.call 1 46 [(.t 3)]),
 oM 5 4,
 oG 6 5 false (.fieldAddr 0 (.t 1)),
 oG 7 5 false (.fieldAddr 0 (.t 6)),
 ⟨(some 8),.load false 1 (.t 7),(some (5,false)),none,[]⟩,
 oG 9 5 false (.bin .gtr (.t 8) (.c (.int .i64 3))),
 oN 10 5 false 9,
 oG 11 10 false (.fieldAddr 0 (.t 1)),
 oG 12 10 false (.fieldAddr 1 (.t 11)),
 ⟨(some 13),.load false 1 (.t 12),(some (10,false)),none,[]⟩,
 oG 14 10 false (.bin .gtr (.t 13) (.c (.int .i64 4))),
 oG 15 5 false (.pick (.t 10) (.c (.bool true)) (.t 14)),
 oN 16 5 false 15,
 ⟨(some 17),.load true 7 (.t 1),(some (16,true)),none,[]⟩,
 ⟨(some 18),.call 1 49 [(.t 17)],(some (16,true)),none,[]⟩,
 oG 19 16 true (.bin .eql (.t 18) (.c (.int .i64 0))),
 oG 20 5 false (.pick (.t 16) (.t 19) (.c (.bool false))),
 oP 21 (.pick (.t 5) (.c (.bool true)) (.t 20)),
 oM 2 21])
 (.ret))⟩
def f60 : AFn:=⟨14,[.tmp 2,.tmp 3],
 .seq (.region 0 [oQ 1 (.box (.t 0)),
 oC 2 0,
 oC 3 0])
 (.seq (.region 0 [oL 7 true 7 1,
 oQ 8 (.call 1 33 [(.t 7)]),
 oM 6 8,
 oE 9 6 0,
 oE 10 6 1,
 oM 4 9,
 oM 5 10])
 (.seq (.region 0 [oM 11 4,
 oP 12 (.lenS (.t 11)),
 oM 13 5,
 oM 2 12,
 oM 3 13])
 (.ret)))⟩
def f66 : AFn:=⟨122,[.tmp 4],
 .seq (.region 0 [oQ 2 (.box (.t 0)),
 oP 4 (.move (.c (.bool false)))])
 (.seq (.seq (.region 0 [oM 11 1,
 oP 12 (.lenS (.t 11)),
 oF 13 1 2,
 oL 14 false 1 13,
 oP 15 (.bin .neq (.t 12) (.t 14))])
 (.cond (.t 15) (.seq (.region 0 [oP 4 (.move (.c (.bool false)))])
 (.ret))
 (.skip)))
 (.seq (.seq (.region 0 [oC 5 0])
 (.block 0 (.loop (.seq (.seq (.region 0 [oM 16 5,
 oM 17 1,
 oP 18 (.lenS (.t 17)),
 oP 19 (.bin .lss (.t 16) (.t 18))])
 (.cond (.t 19) (.skip)
 (.exit 0)))
 (.seq (.block 1 (.seq (.seq (.region 0 [oM 22 1,
 oM 23 5,
 oD 24 1 22 23,
 oL 25 false 1 24,
 oP 26 (.lenS (.t 25)),
 oF 27 0 2,
 oL 28 false 1 27,
 oP 29 (.bin .neq (.t 26) (.t 28))])
 (.cond (.t 29) (.seq (.region 0 [oP 4 (.move (.c (.bool false)))])
 (.ret))
 (.skip)))
 (.seq (.seq (.region 0 [oC 6 0])
 (.block 2 (.loop (.seq (.seq (.region 0 [oM 30 6,
 oM 31 1,
 oM 32 5,
 oD 33 1 31 32,
 oL 34 false 1 33,
 oP 35 (.lenS (.t 34)),
 oP 36 (.bin .lss (.t 30) (.t 35))])
 (.cond (.t 36) (.skip)
 (.exit 2)))
 (.seq (.block 3 (.seq (.region 0 [oM 39 1,
 oM 40 5,
 oD 41 1 39 40,
 oL 42 false 1 41,
 oM 43 6,
 oD 44 1 42 43,
 oL 45 false 1 44,
 oQ 46 (.call 1 23 [(.t 45),(.c (.int .i64 0)),(.c (.int .i64 40))]),
 oP 47 (.un .not (.t 46))])
 (.cond (.t 47) (.seq (.region 0 [oP 4 (.move (.c (.bool false)))])
 (.ret))
 (.skip))))
 (.region 0 [oM 37 6,
 oP 38 (.bin .add (.t 37) (.c (.int .i64 1))),
 oM 6 38]))))))
 (.seq (.seq (.region 0 [oM 48 1,
 oM 49 5,
 oD 50 1 48 49,
 oL 51 false 1 50,
 oQ 52 (.call 1 106 [(.t 51),(.c (.int .i64 0))]),
 oP 53 (.bin .gtr (.t 52) (.c (.int .i64 40)))])
 (.cond (.t 53) (.seq (.region 0 [oP 4 (.move (.c (.bool false)))])
 (.ret))
 (.skip)))
 (.seq (.region 0 [oC 7 0])
 (.block 4 (.loop (.seq (.seq (.region 0 [oM 54 7,
 oF 55 0 2,
 oL 56 false 1 55,
 oP 57 (.bin .lss (.t 54) (.t 56)),
 oM 58 57,
 oN 59 58 true 5,
 oG 60 58 true (.bin .gtr (.t 59) (.c (.int .i64 0))),
 oP 61 (.pick (.t 58) (.t 60) (.c (.bool false)))])
 (.cond (.t 61) (.skip)
 (.exit 4)))
 (.seq (.block 5 (.seq (.region 0 [oM 64 1,
 oM 65 5,
 oD 66 1 64 65,
 oL 67 false 1 66,
 oM 68 7,
 oQ 69 (.call 1 106 [(.t 67),(.t 68)]),
 oM 70 1,
 oM 71 5,
 oP 72 (.bin .sub (.t 71) (.c (.int .i64 1))),
 oD 73 1 70 72,
 oL 74 false 1 73,
 oM 75 7,
 oQ 76 (.call 1 106 [(.t 74),(.t 75)]),
 oP 77 (.bin .sub (.t 69) (.t 76)),
 oM 8 77])
 (.seq (.region 0 [oM 78 8,
 oP 79 (.bin .lss (.t 78) (.c (.int .i64 0))),
 oM 80 79,
 oN 81 80 false 8,
 oG 82 80 false (.bin .gtr (.t 81) (.c (.int .i64 0))),
 oN 83 80 false 82,
 oG 84 83 true (.fieldAddr 2 (.t 2)),
 ⟨(some 85),.load false 1 (.t 84),(some (83,true)),none,[]⟩,
 oN 86 83 true 5,
 oG 87 83 true (.bin .sub (.t 86) (.c (.int .i64 1))),
 oG 88 83 true (.idxSl 1 (.t 85) (.t 87)),
 ⟨(some 89),.load false 1 (.t 88),(some (83,true)),none,[]⟩,
 oN 90 83 true 7,
 ⟨(some 91),.call 1 22 [(.t 89),(.t 90)],(some (83,true)),none,[]⟩,
 oG 92 83 true (.un .not (.t 91)),
 oG 93 80 false (.pick (.t 83) (.t 92) (.c (.bool false))),
 oP 94 (.pick (.t 80) (.c (.bool true)) (.t 93))])
 (.cond (.t 94) (.seq (.region 0 [oP 4 (.move (.c (.bool false)))])
 (.ret))
 (.skip)))))
 (.region 0 [oM 62 7,
 oP 63 (.bin .add (.t 62) (.c (.int .i64 1))),
 oM 7 63]))))))))))
 (.region 0 [oM 20 5,
 oP 21 (.bin .add (.t 20) (.c (.int .i64 1))),
 oM 5 21]))))))
 (.seq (.seq (.region 0 [oC 9 0])
 (.block 6 (.loop (.seq (.seq (.region 0 [oM 95 9,
 oF 96 3 2,
 oL 97 false 1 96,
 oP 98 (.lenS (.t 97)),
 oP 99 (.bin .lss (.t 95) (.t 98))])
 (.cond (.t 99) (.skip)
 (.exit 6)))
 (.seq (.block 7 (.seq (.region 0 [oF 102 3 2,
 oL 103 false 1 102,
 oM 104 9,
 oD 105 4 103 104,
 oL 106 true 4 105,
 oQ 10 (.alloc [.int .i64 0,.int .i64 0,.int .i64 0,.int .i64 0]),
 ⟨none,.store 4 (.t 10) (.t 106),none,none,[]⟩])
 (.seq (.region 0 [oM 107 1,
 oF 108 0 10,
 oL 109 false 1 108,
 oD 110 1 107 109,
 oL 111 false 1 110,
 oF 112 1 10,
 oL 113 false 1 112,
 oD 114 1 111 113,
 oL 115 false 1 114,
 oF 116 2 10,
 oL 117 false 1 116,
 oF 118 3 10,
 oL 119 false 1 118,
 oQ 120 (.call 1 23 [(.t 115),(.t 117),(.t 119)]),
 oP 121 (.un .not (.t 120))])
 (.cond (.t 121) (.seq (.region 0 [oP 4 (.move (.c (.bool false)))])
 (.ret))
 (.skip)))))
 (.region 0 [oM 100 9,
 oP 101 (.bin .add (.t 100) (.c (.int .i64 1))),
 oM 9 101]))))))
 (.seq (.region 0 [oP 4 (.move (.c (.bool true)))])
 (.ret)))))⟩
def f67 : AFn:=⟨41,[.cell true 4 4],
 .seq (.region 0 [oQ 2 (.box (.t 0)),
 oQ 4 (.alloc [.int .i64 0,.int .i64 0,.nils,.nils])])
 (.seq (.region 0 [oF 7 0 2,
 oL 8 true 4 7,
 oQ 9 (.call 1 83 [(.t 8)]),
 oQ 5 (.alloc [.int .i64 0,.int .i64 0,.nils,.nils]),
 ⟨none,.store 4 (.t 5) (.t 9),none,none,[]⟩])
 (.seq (.region 0 [oF 10 3 5,
 ⟨none,.store 1 (.t 10) (.c (.nils)),none,none,[]⟩])
 (.seq (.seq (.region 0 [oC 6 0])
 (.block 0 (.loop (.seq (.seq (.region 0 [oM 11 6,
 oF 12 0 2,
 oF 13 3 12,
 oL 14 false 1 13,
 oP 15 (.lenS (.t 14)),
 oP 16 (.bin .lss (.t 11) (.t 15))])
 (.cond (.t 16) (.skip)
 (.exit 0)))
 (.seq (.block 1 (.seq (.region 0 [oM 19 1,
 oF 20 0 2,
 oF 21 3 20,
 oL 22 false 1 21,
 oM 23 6,
 oD 24 4 22 23,
 oF 25 0 24,
 oL 26 false 1 25,
 oQ 27 (.call 1 22 [(.t 19),(.t 26)]),
 oP 28 (.un .not (.t 27))])
 (.cond (.t 28) (.region 1 [oF 29 3 5,
 ⟨(some 30),.load false 1 (.t 29),none,none,[0]⟩,
 oF 31 0 2,
 oF 32 3 31,
 ⟨(some 33),.load false 1 (.t 32),none,none,[0]⟩,
 oM 34 6,
 oD 35 4 33 34,
 ⟨(some 36),.load true 4 (.t 35),none,none,[0]⟩,
 oQ 37 (.litS 4 1 [.int .i64 0,.int .i64 0,.int .i64 0,.int .i64 0] [(0,(.t 36))]),
 ⟨(some 38),.append false 4 32 (.t 30) (.t 37),none,(some 0),[]⟩,
 oF 39 3 5,
 ⟨none,.store 1 (.t 39) (.t 38),none,none,[]⟩])
 (.skip))))
 (.region 0 [oM 17 6,
 oP 18 (.bin .add (.t 17) (.c (.int .i64 1))),
 oM 6 18]))))))
 (.seq (.region 0 [oL 40 true 4 5,
 ⟨none,.store 4 (.t 4) (.t 40),none,none,[]⟩])
 (.ret)))))⟩
def f68 : AFn:=⟨19,[.cell true 7 0,.cell true 7 1],
 .seq (.region 0 [oQ 0 (.alloc [.int .i64 0,.int .i64 0,.nils,.nils,.int .i64 0,.int .i64 0,.nils]),
 oQ 1 (.alloc [.int .i64 0,.int .i64 0,.nils,.nils,.int .i64 0,.int .i64 0,.nils])])
 (.seq (.region 0 [oQ 2 (.litS 1 1 [.int .i64 0] [(0,(.c (.int .i64 0)))]),
 oQ 3 (.litS 1 1 [.int .i64 0] [(0,(.c (.int .i64 0)))]),
 oQ 4 (.litS 1 1 [.int .i64 0] [(0,(.c (.int .i64 0)))]),
 oQ 5 (.litS 1 3 [.nils] [(0,(.t 2)),(1,(.t 3)),(2,(.t 4))]),
 oQ 6 (.call 1 107 [(.c (.int .i64 0)),(.c (.int .i64 0)),(.c (.int .i64 5)),(.c (.int .i64 6))]),
 oQ 7 (.call 1 107 [(.c (.int .i64 1)),(.c (.int .i64 0)),(.c (.int .i64 2)),(.c (.int .i64 3))]),
 oQ 8 (.call 1 107 [(.c (.int .i64 2)),(.c (.int .i64 0)),(.c (.int .i64 7)),(.c (.int .i64 9))]),
 oQ 9 (.call 1 107 [(.c (.int .i64 3)),(.c (.int .i64 0)),(.c (.int .i64 4)),(.c (.int .i64 4))]),
 oQ 10 (.litS 4 4 [.int .i64 0,.int .i64 0,.int .i64 0,.int .i64 0] [(0,(.t 6)),(1,(.t 7)),(2,(.t 8)),(3,(.t 9))]),
 oP 11 (.build [.int .i64 0,.int .i64 0,.nils,.nils] [(0,1,(.c (.int .i64 1))),(1,1,(.c (.int .i64 4))),(2,1,(.t 5)),(3,1,(.t 10))]),
 oQ 12 (.litS 1 1 [.int .i64 0] [(0,(.c (.int .i64 2)))]),
 oP 13 (.build [.int .i64 0,.int .i64 0,.nils,.nils,.int .i64 0,.int .i64 0,.nils] [(0,4,(.t 11)),(4,1,(.c (.int .i64 2))),(5,1,(.c (.int .i64 1))),(6,1,(.t 12))]),
 ⟨none,.store 7 (.t 0) (.t 13),none,none,[]⟩])
 (.seq (.region 0 [oL 14 true 7 0,
 oQ 15 (.call 1 35 [(.t 14)]),
 ⟨none,.store 7 (.t 1) (.t 15),none,none,[]⟩])
 (.seq (.region 0 [oF 16 6 1,
 ⟨none,.store 1 (.t 16) (.c (.nils)),none,none,[]⟩])
 (.seq (.region 0 [oL 17 true 7 0,
 oQ 18 (.loadR true 7 (.t 1) 1),
 ⟨none,.storeR 7 (.t 0) (.t 17) [1],none,none,[]⟩,
 ⟨none,.store 7 (.t 1) (.t 18),none,none,[]⟩])
 (.ret)))))⟩
def f69 : AFn:=⟨25,[.tmp 4],
 .seq (.region 0 [oQ 2 (.box (.t 0)),
 oP 4 (.move (.c (.bool false)))])
 (.seq (.region 0 [oP 5 (.move (.c (.int .i64 (-1))))])
 (.seq (.seq (.region 0 [oM 8 1,
 oP 9 (.lenS (.t 8)),
 oC 10 0])
 (.block 0 (.loop (.seq (.region 0 [oP 11 (.bin .lss (.t 10) (.t 9))])
 (.seq (.cond (.t 11) (.skip)
 (.exit 0))
 (.seq (.block 1 (.seq (.region 0 [oD 12 1 8 10,
 oL 13 false 1 12,
 oM 7 13])
 (.seq (.seq (.region 0 [oM 14 7,
 oM 15 5,
 oP 16 (.bin .add (.t 15) (.c (.int .i64 1))),
 oF 17 0 2,
 oF 18 1 17,
 oL 19 false 1 18,
 oP 20 (.bin .sub (.t 19) (.c (.int .i64 1))),
 oQ 21 (.call 1 108 [(.t 14),(.t 16),(.t 20)]),
 oP 22 (.un .not (.t 21))])
 (.cond (.t 22) (.seq (.region 0 [oP 4 (.move (.c (.bool false)))])
 (.ret))
 (.skip)))
 (.region 0 [oM 23 7,
 oM 5 23]))))
 (.region 0 [oP 24 (.bin .add (.t 10) (.c (.int .i64 1))),
 oM 10 24])))))))
 (.seq (.region 0 [oP 4 (.move (.c (.bool true)))])
 (.ret))))⟩
def f70 : AFn:=⟨20,[.cell true 5 4,.tmp 5],
 .seq (.region 0 [oQ 2 (.box (.t 0)),
 oQ 3 (.box (.t 1)),
 oQ 4 (.alloc [.nils,.int .i64 0,.int .i64 0,.nils,.nils]),
 oP 5 (.move (.c (.bool false)))])
 (.seq (.region 0 [oL 7 true 8 2,
 oP 8 (.mkFn 110 [] [(.t 3),(.t 2)]),
 oQ 9 (.call 0 109 [(.t 7),(.t 8)]),
 oQ 6 (.alloc [.int .i64 0,.int .i64 0,.nils,.nils]),
 ⟨none,.store 4 (.t 6) (.t 9),none,none,[]⟩])
 (.seq (.region 0 [oL 10 false 1 3,
 oL 11 true 4 6,
 oP 12 (.build [.nils,.int .i64 0,.int .i64 0,.nils,.nils] [(0,1,(.t 10)),(1,4,(.t 11))]),
 oL 13 true 8 2,
 oL 14 false 1 3,
 oQ 15 (.call 3 112 [(.t 13),(.t 14)]),
 oM 16 15,
 ⟨(some 17),.load true 4 (.t 6),(some (16,true)),none,[]⟩,
 ⟨(some 18),.call 1 113 [(.t 17)],(some (16,true)),none,[]⟩,
 oP 19 (.pick (.t 16) (.t 18) (.c (.bool false))),
 ⟨none,.store 5 (.t 4) (.t 12),none,none,[]⟩,
 oM 5 19])
 (.ret)))⟩
def f71 : AFn:=⟨25,[.cell true 8 4,.tmp 5],
 .seq (.region 0 [oQ 2 (.box (.t 0)),
 oQ 4 (.alloc [.int .i64 0,.int .i64 0,.nils,.nils,.int .i64 0,.int .i64 0,.nils,.nils]),
 oC 5 0])
 (.seq (.seq (.region 0 [oL 8 true 7 2,
 oQ 9 (.call 1 48 [(.t 8)]),
 oM 6 9])
 (.seq (.region 0 [oM 10 6,
 oP 11 (.bin .neq (.t 10) (.c (.int .i64 0)))])
 (.cond (.t 11) (.seq (.region 0 [oP 12 (.build [.int .i64 0,.int .i64 0,.nils,.nils,.int .i64 0,.int .i64 0,.nils,.nils] []),
 oM 13 6,
 ⟨none,.store 8 (.t 4) (.t 12),none,none,[]⟩,
 oM 5 13])
 (.ret))
 (.skip))))
 (.seq (.seq (.region 0 [oM 14 1,
 oP 15 (.un .not (.t 14))])
 (.cond (.t 15) (.seq (.region 0 [oP 16 (.build [.int .i64 0,.int .i64 0,.nils,.nils,.int .i64 0,.int .i64 0,.nils,.nils] []),
 ⟨none,.store 8 (.t 4) (.t 16),none,none,[]⟩,
 oC 5 1])
 (.ret))
 (.skip)))
 (.seq (.region 0 [oL 17 true 7 2,
 oQ 18 (.call 0 93 [(.t 17)]),
 oQ 7 (.alloc [.int .i64 0,.int .i64 0,.nils,.nils,.int .i64 0,.int .i64 0,.nils,.nils]),
 ⟨none,.store 8 (.t 7) (.t 18),none,none,[]⟩])
 (.seq (.seq (.region 0 [oF 19 7 7,
 oL 20 false 1 19,
 oP 21 (.lenS (.t 20)),
 oP 22 (.bin .eql (.t 21) (.c (.int .i64 0)))])
 (.cond (.t 22) (.seq (.region 0 [oP 23 (.build [.int .i64 0,.int .i64 0,.nils,.nils,.int .i64 0,.int .i64 0,.nils,.nils] []),
 ⟨none,.store 8 (.t 4) (.t 23),none,none,[]⟩,
 oC 5 3])
 (.ret))
 (.skip)))
 (.seq (.region 0 [oL 24 true 8 7,
 ⟨none,.store 8 (.t 4) (.t 24),none,none,[]⟩,
 oC 5 0])
 (.ret))))))⟩
def f72 : AFn:=⟨12,[.tmp 4],
 .seq (.region 0 [oQ 2 (.box (.t 0)),
 oP 4 (.move (.c (.bool false)))])
 (.seq (.region 0 [oM 5 1,
 oF 6 0 2,
 oF 7 3 6,
 oL 8 false 1 7,
 oP 9 (.lenS (.t 8)),
 oP 10 (.bin .sub (.t 9) (.c (.int .i64 1))),
 oQ 11 (.call 1 108 [(.t 5),(.c (.int .i64 0)),(.t 10)]),
 oM 4 11])
 (.ret))⟩
def f73 : AFn:=⟨8,[.tmp 4],
 .seq (.region 0 [oQ 2 (.box (.t 0)),
 oQ 3 (.box (.t 1)),
 oC 4 0])
 (.seq (.region 0 [oL 5 true 8 2,
 oP 6 (.mkFn 115 [] [(.t 2),(.t 3)]),
 oQ 7 (.call 3 114 [(.t 5),(.t 6)]),
 oM 4 7])
 (.ret))⟩
def f74 : AFn:=⟨11,[.tmp 4],
 .seq (.region 0 [oQ 2 (.box (.t 0)),
 oP 4 (.move (.c (.bool false)))])
 (.seq (.region 0 [oM 5 1,
 oF 6 0 2,
 oF 7 1 6,
 oL 8 false 1 7,
 oP 9 (.bin .sub (.t 8) (.c (.int .i64 1))),
 oQ 10 (.call 1 108 [(.t 5),(.c (.int .i64 0)),(.t 9)]),
 oM 4 10])
 (.ret))⟩
def f75 : AFn:=⟨11,[.tmp 4],
 .seq (.region 0 [oQ 2 (.box (.t 0)),
 oP 4 (.move (.c (.bool false)))])
 (.seq (.region 0 [oM 5 1,
 oF 6 0 2,
 oF 7 0 6,
 oL 8 false 1 7,
 oP 9 (.bin .sub (.t 8) (.c (.int .i64 1))),
 oQ 10 (.call 1 108 [(.t 5),(.c (.int .i64 0)),(.t 9)]),
 oM 4 10])
 (.ret))⟩
def f76 : AFn:=⟨50,[.cell true 2 4],
 .seq (.region 0 [oQ 2 (.box (.t 0)),
 oQ 4 (.alloc [.int .i64 0,.int .i64 0])])
 (.seq (.region 0 [oM 12 1,
 oF 13 7 2,
 oL 14 false 1 13,
 oP 15 (.idxSl 5 (.t 14) (.c (.int .i64 0))),
 oF 16 1 15,
 oL 17 true 4 16,
 oQ 18 (.callv true (.t 12) [(.t 17)]),
 oM 11 18,
 oE 19 11 0,
 oE 20 11 1,
 oQ 5 (.alloc [.int .i64 0,.int .i64 0]),
 ⟨none,.store 2 (.t 5) (.t 19),none,none,[]⟩,
 oM 6 20])
 (.seq (.seq (.region 0 [oF 21 7 2,
 oL 22 false 1 21,
 oP 23 (.slice 5 (.t 22) (some (.c (.int .i64 1))) none),
 oP 24 (.lenS (.t 23)),
 oC 25 0])
 (.block 0 (.loop (.seq (.region 0 [oP 26 (.bin .lss (.t 25) (.t 24))])
 (.seq (.cond (.t 26) (.skip)
 (.exit 0))
 (.seq (.block 1 (.seq (.region 0 [oD 27 5 23 25,
 oL 28 true 5 27,
 oQ 8 (.alloc [.nils,.int .i64 0,.int .i64 0,.nils,.nils]),
 ⟨none,.store 5 (.t 8) (.t 28),none,none,[]⟩])
 (.seq (.region 0 [oM 30 1,
 oF 31 1 8,
 oL 32 true 4 31,
 oQ 33 (.callv true (.t 30) [(.t 32)]),
 oM 29 33,
 oE 34 29 0,
 oE 35 29 1,
 oQ 9 (.alloc [.int .i64 0,.int .i64 0]),
 ⟨none,.store 2 (.t 9) (.t 34),none,none,[]⟩,
 oM 10 35])
 (.region 0 [oF 36 0 5,
 oL 37 false 1 36,
 oF 38 0 9,
 oL 39 false 1 38,
 oP 40 (.minmax false (.t 37) [(.t 39)]),
 oF 41 1 5,
 oL 42 false 1 41,
 oF 43 1 9,
 oQ 44 (.loadR false 1 (.t 43) 9),
 oP 45 (.minmax true (.t 42) [(.t 44)]),
 oF 46 0 5,
 ⟨none,.storeR 1 (.t 46) (.t 40) [9],none,none,[]⟩,
 oF 47 1 5,
 ⟨none,.store 1 (.t 47) (.t 45),none,none,[]⟩]))))
 (.region 0 [oP 48 (.bin .add (.t 25) (.c (.int .i64 1))),
 oM 25 48])))))))
 (.seq (.region 0 [oL 49 true 2 5,
 ⟨none,.store 2 (.t 4) (.t 49),none,none,[]⟩])
 (.ret))))⟩
def f77 : AFn:=⟨12,[.cell true 2 4,.tmp 5],
 .seq (.region 0 [oQ 3 (.box (.t 0)),
 oQ 4 (.alloc [.int .i64 0,.int .i64 0]),
 oC 5 0])
 (.seq (.region 0 [oL 6 true 4 3,
 oL 7 false 1 1,
 oL 8 false 1 2,
 oQ 9 (.call 1 78 [(.t 6),(.t 7),(.t 8)]),
 oE 10 9 0,
 oE 11 9 1,
 ⟨none,.store 2 (.t 4) (.t 10),none,none,[]⟩,
 oM 5 11])
 (.ret))⟩
def f78 : AFn:=⟨28,[.cell true 2 6,.tmp 7],
 .seq (.region 0 [oQ 3 (.box (.t 0)),
 oQ 6 (.alloc [.int .i64 0,.int .i64 0]),
 oC 7 0])
 (.seq (.region 0 [oL 11 true 4 3,
 oL 12 true 4 3,
 oM 13 1,
 oM 14 2,
 oQ 15 (.call 1 118 [(.t 12),(.t 13),(.t 14)]),
 oQ 16 (.call 2 117 [(.t 11),(.t 15)]),
 oM 10 16,
 oE 17 10 0,
 oE 18 10 1,
 oM 8 17,
 oM 9 18])
 (.seq (.seq (.region 0 [oM 19 9,
 oP 20 (.bin .neq (.t 19) (.c (.int .i64 0)))])
 (.cond (.t 20) (.seq (.region 0 [oP 21 (.build [.int .i64 0,.int .i64 0] []),
 oM 22 9,
 ⟨none,.store 2 (.t 6) (.t 21),none,none,[]⟩,
 oM 7 22])
 (.ret))
 (.skip)))
 (.seq (.region 0 [oM 23 8,
 oM 24 1,
 oM 25 2,
 oP 26 (.build [.int .i64 0,.int .i64 0] [(0,1,(.t 24)),(1,1,(.t 25))]),
 oQ 27 (.call 3 119 [(.t 23),(.t 26)]),
 ⟨none,.store 2 (.t 6) (.t 27),none,none,[]⟩,
 oC 7 0])
 (.ret))))⟩
def f79 : AFn:=⟨8,[.tmp 4],
 .seq (.region 0 [oQ 2 (.box (.t 0)),
 oQ 3 (.box (.t 1)),
 oC 4 0])
 (.seq (.region 0 [oL 5 true 8 2,
 oP 6 (.mkFn 120 [] [(.t 3)]),
 oQ 7 (.call 3 114 [(.t 5),(.t 6)]),
 oM 4 7])
 (.ret))⟩
def f80 : AFn:=⟨133,[.tmp 4],
 .seq (.region 0 [oQ 2 (.box (.t 0)),
 oP 4 (.move (.c (.bool false)))])
 (.seq (.seq (.region 0 [oP 5 (.move (.c (.bool true)))])
 (.block 0 (.loop (.seq (.seq (.region 0 [oM 13 5])
 (.cond (.t 13) (.skip)
 (.exit 0)))
 (.block 1 (.seq (.region 0 [oP 5 (.move (.c (.bool false)))])
 (.seq (.seq (.region 0 [oC 6 0])
 (.block 2 (.loop (.seq (.seq (.region 0 [oM 14 6,
 oF 15 1 2,
 oL 16 false 1 15,
 oP 17 (.bin .lss (.t 14) (.t 16))])
 (.cond (.t 17) (.skip)
 (.exit 2)))
 (.seq (.block 3 (.seq (.region 0 [oC 7 0])
 (.block 4 (.loop (.seq (.seq (.region 0 [oM 20 7,
 oF 21 0 2,
 oL 22 false 1 21,
 oP 23 (.bin .lss (.t 20) (.t 22))])
 (.cond (.t 23) (.skip)
 (.exit 4)))
 (.seq (.block 5 (.seq (.seq (.region 0 [oM 26 1,
 oM 27 6,
 oD 28 1 26 27,
 oL 29 false 1 28,
 oM 30 7,
 oD 31 2 29 30,
 oF 32 0 31,
 oL 33 false 1 32,
 oM 34 1,
 oM 35 6,
 oD 36 1 34 35,
 oL 37 false 1 36,
 oM 38 7,
 oD 39 2 37 38,
 oF 40 1 39,
 oL 41 false 1 40,
 oP 42 (.bin .gtr (.t 33) (.t 41))])
 (.cond (.t 42) (.seq (.region 0 [oP 4 (.move (.c (.bool false)))])
 (.ret))
 (.skip)))
 (.seq (.region 0 [oM 43 1,
 oM 44 6,
 oM 45 7,
 oM 46 6,
 oM 47 7,
 oP 48 (.bin .add (.t 47) (.c (.int .i64 1))),
 oQ 49 (.call 0 121 [(.t 43),(.t 44),(.t 45),(.t 46),(.t 48),(.c (.int .i64 0)),(.c (.int .i64 40))]),
 oM 50 49,
 oN 51 50 false 5,
 oP 52 (.pick (.t 50) (.c (.bool true)) (.t 51)),
 oM 5 52])
 (.seq (.seq (.region 0 [oM 53 6,
 oP 54 (.bin .eql (.t 53) (.c (.int .i64 0)))])
 (.cond (.t 54) (.exit 5)
 (.skip)))
 (.seq (.region 0 [oC 8 0])
 (.seq (.seq (.region 0 [oF 55 2 2,
 oL 56 false 1 55,
 oM 57 6,
 oP 58 (.bin .sub (.t 57) (.c (.int .i64 1))),
 oD 59 1 56 58,
 oL 60 false 1 59,
 oM 61 7,
 oQ 62 (.call 1 22 [(.t 60),(.t 61)])])
 (.cond (.t 62) (.region 0 [oC 8 40])
 (.skip)))
 (.region 0 [oM 63 1,
 oM 64 6,
 oM 65 7,
 oM 66 6,
 oP 67 (.bin .sub (.t 66) (.c (.int .i64 1))),
 oM 68 7,
 oM 69 8,
 oQ 70 (.call 0 121 [(.t 63),(.t 64),(.t 65),(.t 67),(.t 68),(.c (.int .i64 0)),(.t 69)]),
 oM 71 70,
 oN 72 71 false 5,
 oP 73 (.pick (.t 71) (.c (.bool true)) (.t 72)),
 oM 5 73])))))))
 (.region 0 [oM 24 7,
 oP 25 (.bin .add (.t 24) (.c (.int .i64 1))),
 oM 7 25])))))))
 (.region 0 [oM 18 6,
 oP 19 (.bin .add (.t 18) (.c (.int .i64 1))),
 oM 6 19]))))))
 (.seq (.region 0 [oC 9 0])
 (.block 6 (.loop (.seq (.seq (.region 0 [oM 74 9,
 oF 75 3 2,
 oL 76 false 1 75,
 oP 77 (.lenS (.t 76)),
 oP 78 (.bin .lss (.t 74) (.t 77))])
 (.cond (.t 78) (.skip)
 (.exit 6)))
 (.seq (.block 7 (.seq (.region 0 [oF 81 3 2,
 oL 82 false 1 81,
 oM 83 9,
 oD 84 4 82 83,
 oL 85 true 4 84,
 oQ 10 (.alloc [.int .i64 0,.int .i64 0,.int .i64 0,.int .i64 0]),
 ⟨none,.store 4 (.t 10) (.t 85),none,none,[]⟩])
 (.region 0 [oM 86 1,
 oF 87 0 10,
 oL 88 false 1 87,
 oF 89 1 10,
 oL 90 false 1 89,
 oF 91 0 10,
 oL 92 false 1 91,
 oF 93 1 10,
 oL 94 false 1 93,
 oP 95 (.bin .add (.t 94) (.c (.int .i64 1))),
 oF 96 2 10,
 oL 97 false 1 96,
 oF 98 3 10,
 oL 99 false 1 98,
 oQ 100 (.call 0 121 [(.t 86),(.t 88),(.t 90),(.t 92),(.t 95),(.t 97),(.t 99)]),
 oM 101 100,
 oN 102 101 false 5,
 oP 103 (.pick (.t 101) (.c (.bool true)) (.t 102)),
 oM 5 103])))
 (.region 0 [oM 79 9,
 oP 80 (.bin .add (.t 79) (.c (.int .i64 1))),
 oM 9 80])))))))))))))
 (.seq (.seq (.region 0 [oC 11 0])
 (.block 8 (.loop (.seq (.seq (.region 0 [oM 104 11,
 oF 105 1 2,
 oL 106 false 1 105,
 oP 107 (.bin .lss (.t 104) (.t 106))])
 (.cond (.t 107) (.skip)
 (.exit 8)))
 (.seq (.block 9 (.seq (.region 0 [oC 12 0])
 (.block 10 (.loop (.seq (.seq (.region 0 [oM 110 12,
 oF 111 0 2,
 oL 112 false 1 111,
 oP 113 (.bin .leq (.t 110) (.t 112))])
 (.cond (.t 113) (.skip)
 (.exit 10)))
 (.seq (.block 11 (.seq (.region 0 [oM 116 1,
 oM 117 11,
 oD 118 1 116 117,
 oL 119 false 1 118,
 oM 120 12,
 oD 121 2 119 120,
 oF 122 0 121,
 oL 123 false 1 122,
 oM 124 1,
 oM 125 11,
 oD 126 1 124 125,
 oL 127 false 1 126,
 oM 128 12,
 oD 129 2 127 128,
 oF 130 1 129,
 oL 131 false 1 130,
 oP 132 (.bin .gtr (.t 123) (.t 131))])
 (.cond (.t 132) (.seq (.region 0 [oP 4 (.move (.c (.bool false)))])
 (.ret))
 (.skip))))
 (.region 0 [oM 114 12,
 oP 115 (.bin .add (.t 114) (.c (.int .i64 1))),
 oM 12 115])))))))
 (.region 0 [oM 108 11,
 oP 109 (.bin .add (.t 108) (.c (.int .i64 1))),
 oM 11 109]))))))
 (.seq (.region 0 [oP 4 (.move (.c (.bool true)))])
 (.ret))))⟩
def f81 : AFn:=⟨32,[.tmp 2],
 .seq (.region 0 [oQ 1 (.box (.t 0)),
 oP 2 (.move (.c (.nils)))])
 (.seq (.region 0 [oP 3 (.move (.c (.nils)))])
 (.seq (.seq (.region 0 [oC 4 0])
 (.block 0 (.loop (.seq (.seq (.region 0 [oM 7 4,
 oF 8 1 1,
 oL 9 false 1 8,
 oP 10 (.bin .lss (.t 7) (.t 9))])
 (.cond (.t 10) (.skip)
 (.exit 0)))
 (.seq (.block 1 (.seq (.region 0 [oF 13 0 1,
 oL 14 false 1 13,
 oP 15 (.bin .add (.t 14) (.c (.int .i64 1))),
 oQ 16 (.makeSlice false 2 16 [.int .i64 0,.int .i64 0] (.t 15) (.t 15)),
 oM 5 16])
 (.seq (.seq (.region 0 [oC 6 0])
 (.block 2 (.loop (.seq (.seq (.region 0 [oM 17 6,
 oF 18 0 1,
 oL 19 false 1 18,
 oP 20 (.bin .lss (.t 17) (.t 19))])
 (.cond (.t 20) (.skip)
 (.exit 2)))
 (.seq (.block 3 (.region 0 [oM 23 5,
 oM 24 6,
 oD 25 2 23 24,
 oF 26 1 25,
 ⟨none,.store 1 (.t 26) (.c (.int .i64 40)),none,none,[]⟩]))
 (.region 0 [oM 21 6,
 oP 22 (.bin .add (.t 21) (.c (.int .i64 1))),
 oM 6 22]))))))
 (.region 0 [oM 27 3,
 oM 28 5,
 oQ 29 (.buildSlice 1 1 [.nils] [(0,(.t 28))]),
 oQ 30 (.append false 1 24 (.t 27) (.t 29)),
 oM 3 30]))))
 (.region 0 [oM 11 4,
 oP 12 (.bin .add (.t 11) (.c (.int .i64 1))),
 oM 4 12]))))))
 (.seq (.region 0 [oM 31 3,
 oM 2 31])
 (.ret))))⟩
def f82 : AFn:=⟨29,[.tmp 2],
 .seq (.region 0 [oQ 1 (.box (.t 0)),
 oP 2 (.move (.c (.nils)))])
 (.seq (.seq (.region 0 [oF 5 0 1,
 oF 6 0 5,
 oF 7 3 6,
 oL 8 false 1 7,
 oP 9 (.lenS (.t 8)),
 oQ 10 (.call 1 122 [(.t 9)]),
 oP 11 (.lenS (.t 10)),
 oC 12 0])
 (.block 0 (.loop (.seq (.region 0 [oP 13 (.bin .lss (.t 12) (.t 11))])
 (.seq (.cond (.t 13) (.skip)
 (.exit 0))
 (.seq (.block 1 (.seq (.region 0 [oD 14 1 10 12,
 oL 15 false 1 14,
 oQ 4 (.alloc [.nils]),
 ⟨none,.store 1 (.t 4) (.t 15),none,none,[]⟩])
 (.seq (.region 0 [oL 16 true 8 1,
 oL 17 true 8 1,
 oL 18 false 1 4,
 oQ 19 (.call 1 123 [(.t 17),(.t 18)]),
 oQ 20 (.call 3 112 [(.t 16),(.t 19)]),
 oM 21 20,
 ⟨(some 22),.load true 8 (.t 1),(some (21,true)),none,[]⟩,
 oG 23 21 true (.mkFn 124 [] [(.t 4)]),
 ⟨(some 24),.call 0 109 [(.t 22),(.t 23)],(some (21,true)),none,[]⟩,
 ⟨(some 25),.call 1 113 [(.t 24)],(some (21,true)),none,[]⟩,
 oP 26 (.pick (.t 21) (.t 25) (.c (.bool false)))])
 (.cond (.t 26) (.seq (.region 0 [oL 27 false 1 4,
 oM 2 27])
 (.ret))
 (.skip)))))
 (.region 0 [oP 28 (.bin .add (.t 12) (.c (.int .i64 1))),
 oM 12 28])))))))
 (.seq (.region 0 [oP 2 (.move (.c (.nils)))])
 (.ret)))⟩
def f83 : AFn:=⟨34,[.cell true 4 2],
 .seq (.region 0 [oQ 1 (.box (.t 0)),
 oQ 2 (.alloc [.int .i64 0,.int .i64 0,.nils,.nils])])
 (.seq (.region 3 [oF 5 0 1,
 ⟨(some 6),.load false 1 (.t 5),none,none,[0,1,2]⟩,
 oF 7 1 1,
 ⟨(some 8),.load false 1 (.t 7),none,none,[0,1,2]⟩,
 ⟨(some 9),.buildSlice 4 0 [.int .i64 0,.int .i64 0,.int .i64 0,.int .i64 0] [],none,(some 0),[]⟩,
 oF 10 3 1,
 ⟨(some 11),.load false 1 (.t 10),none,none,[0,1,2]⟩,
 ⟨(some 12),.append true 4 32 (.t 9) (.t 11),none,(some 1),[2]⟩,
 oP 13 (.build [.int .i64 0,.int .i64 0,.nils,.nils] [(0,1,(.t 6)),(1,1,(.t 8)),(3,1,(.t 12))]),
 ⟨(some 3),.alloc [.int .i64 0,.int .i64 0,.nils,.nils],none,(some 2),[]⟩,
 ⟨none,.store 4 (.t 3) (.t 13),none,(some 2),[]⟩])
 (.seq (.seq (.region 0 [oC 4 0])
 (.block 0 (.loop (.seq (.seq (.region 0 [oM 14 4,
 oF 15 2 1,
 oL 16 false 1 15,
 oP 17 (.lenS (.t 16)),
 oP 18 (.bin .lss (.t 14) (.t 17))])
 (.cond (.t 18) (.skip)
 (.exit 0)))
 (.seq (.block 1 (.region 4 [oF 21 2 3,
 ⟨(some 22),.load false 1 (.t 21),none,none,[0,1,2,3]⟩,
 ⟨(some 23),.buildSlice 1 0 [.int .i64 0] [],none,(some 0),[]⟩,
 oF 24 2 1,
 ⟨(some 25),.load false 1 (.t 24),none,none,[0,1,2,3]⟩,
 oM 26 4,
 oD 27 1 25 26,
 ⟨(some 28),.load false 1 (.t 27),none,none,[0,1,2,3]⟩,
 ⟨(some 29),.append true 1 8 (.t 23) (.t 28),none,(some 1),[2,3]⟩,
 ⟨(some 30),.buildSlice 1 1 [.nils] [(0,(.t 29))],none,(some 2),[]⟩,
 ⟨(some 31),.append false 1 24 (.t 22) (.t 30),none,(some 3),[]⟩,
 oF 32 2 3,
 ⟨none,.store 1 (.t 32) (.t 31),none,none,[]⟩]))
 (.region 0 [oM 19 4,
 oP 20 (.bin .add (.t 19) (.c (.int .i64 1))),
 oM 4 20]))))))
 (.seq (.region 0 [oL 33 true 4 3,
 ⟨none,.store 4 (.t 2) (.t 33),none,none,[]⟩])
 (.ret))))⟩
def f85 : AFn:=⟨10,[.tmp 4],
 .seq (.region 0 [oQ 2 (.box (.t 0)),
 oP 4 (.move (.c (.bool false)))])
 (.seq (.region 0 [oM 5 1,
 oF 6 1 2,
 oL 7 false 1 6,
 oP 8 (.bin .sub (.t 7) (.c (.int .i64 1))),
 oQ 9 (.call 1 23 [(.t 5),(.c (.int .i64 0)),(.t 8)]),
 oM 4 9])
 (.ret))⟩
def f89 : AFn:=⟨11,[.tmp 6],
 .seq (.region 0 [oP 6 (.move (.c (.bool false)))])
 (.seq (.region 0 [oM 7 0,
 oM 8 1,
 oM 9 2,
 oQ 10 (.call 1 23 [(.t 7),(.t 8),(.t 9)]),
 oM 6 10])
 (.ret))⟩
def f90 : AFn:=⟨12,[.tmp 2],
 .seq (.region 0 [oQ 1 (.box (.t 0)),
 oP 2 (.move (.c (.bool false)))])
 (.seq (.region 0 [oF 3 2 1,
 oL 4 false 1 3,
 oQ 5 (.call 1 127 [(.t 4)]),
 oM 6 5,
 oG 7 6 false (.fieldAddr 3 (.t 1)),
 ⟨(some 8),.load false 1 (.t 7),(some (6,false)),none,[]⟩,
 oG 9 6 false (.lenS (.t 8)),
 oG 10 6 false (.bin .gtr (.t 9) (.c (.int .i64 40))),
 oP 11 (.pick (.t 6) (.c (.bool true)) (.t 10)),
 oM 2 11])
 (.ret))⟩
def f91 : AFn:=⟨23,[.tmp 2],
 .seq (.region 0 [oQ 1 (.box (.t 0)),
 oP 2 (.move (.c (.bool false)))])
 (.seq (.region 0 [oF 3 0 1,
 oL 4 true 4 3,
 oQ 5 (.call 1 128 [(.t 4)]),
 oP 6 (.bin .eql (.t 5) (.c (.int .i64 0))),
 oM 7 6,
 oG 8 7 true (.fieldAddr 4 (.t 1)),
 ⟨(some 9),.load false 1 (.t 8),(some (7,true)),none,[]⟩,
 ⟨(some 10),.call 1 108 [(.t 9),(.c (.int .i64 0)),(.c (.int .i64 5))],(some (7,true)),none,[]⟩,
 oP 11 (.pick (.t 7) (.t 10) (.c (.bool false))),
 oM 12 11,
 oG 13 12 true (.fieldAddr 5 (.t 1)),
 ⟨(some 14),.load false 1 (.t 13),(some (12,true)),none,[]⟩,
 ⟨(some 15),.call 1 108 [(.t 14),(.c (.int .i64 0)),(.c (.int .i64 5))],(some (12,true)),none,[]⟩,
 oP 16 (.pick (.t 12) (.t 15) (.c (.bool false))),
 oM 17 16,
 ⟨(some 18),.load true 7 (.t 1),(some (17,true)),none,[]⟩,
 oG 19 17 true (.fieldAddr 6 (.t 1)),
 ⟨(some 20),.load false 1 (.t 19),(some (17,true)),none,[]⟩,
 ⟨(some 21),.call 1 69 [(.t 18),(.t 20)],(some (17,true)),none,[]⟩,
 oP 22 (.pick (.t 17) (.t 21) (.c (.bool false))),
 oM 2 22])
 (.ret))⟩
end Go.Proofs.YtfknojncfbahpaaGreat.T
