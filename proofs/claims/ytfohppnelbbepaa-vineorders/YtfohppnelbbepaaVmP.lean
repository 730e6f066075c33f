/- The functions that the law reaches, as the small machine takes them. -/
import Derived.Test.YtfohppnelbbepaaVmA
import Derived.KernelRfl
open Go.Vm
namespace Go.Proofs.Ytfohppnelbbepaa.T
open Go
abbrev mV (d s : Nat) : AOp := .mk (some d) none (.pure (.mv (.t s)))
abbrev pU (d : Nat) (k : PK) : AOp := .mk (some d) none (.pure k)
abbrev nU (d : Nat) (k : Kind) : AOp := .mk (some d) none k
def fn12 : AFn := (AFn.mk 177 [(.t 6)] (.seq (.ops [
  pU 6 (.mv (.c (.b false)))]) (.seq (.seq (.ops [
  mV 17 0, mV 18 1, nU 19 (.call 15 [(.t 17), (.t 18)]), pU 20 (.not (.t 19))]) (.cond (.t 20) (.seq (.ops [
  nU 21 (.call 16 []), mV 6 21]) .ret) .skip)) (.seq (.ops [
  mV 23 0, mV 24 1, nU 25 (.call 28 [(.t 23), (.t 24)]), mV 22 25, pU 26 (.ext 0 (.t 22)), pU 27 (.ext 1 (.t 22)), pU 28 (.ext 2 (.t 22)), mV 7 26, mV 8 27, mV 9 28]) (.seq (.ops [
  mV 30 0, mV 31 1, nU 32 (.call 26 [(.t 30), (.t 31)]), mV 29 32, pU 33 (.ext 0 (.t 29)), pU 34 (.ext 1 (.t 29)), mV 10 33, mV 11 34]) (.seq (.seq (.ops [
  mV 35 9, pU 36 (.bin .neq (.t 35) (.c (.i .i64 0)))]) (.cond (.t 36) (.seq (.ops [
  mV 37 9, mV 38 11, pU 39 (.bin .eql (.t 37) (.t 38)), mV 40 39, (.mk (some 41) (some (40, true)) (.pure (.mv (.t 7)))), (.mk (some 42) (some (40, true)) (.pure (.mv (.t 8)))), (.mk (some 43) (some (40, true)) (.pure (.bin .add (.t 41) (.t 42)))), (.mk (some 44) (some (40, true)) (.pure (.mv (.t 10)))), (.mk (some 45) (some (40, true)) (.pure (.bin .add (.t 43) (.t 44)))), (.mk (some 46) (some (40, true)) (.pure (.bin .eql (.t 45) (.c (.i .i64 0))))), pU 47 (.pick (.t 40) (.t 46) (.c (.b false))), mV 48 47, (.mk (some 49) (some (48, true)) (.call 16 [])), pU 50 (.pick (.t 48) (.t 49) (.c (.b false))), mV 6 50]) .ret) .skip)) (.seq (.seq (.ops [
  mV 51 7, pU 52 (.bin .lss (.t 51) (.c (.i .i64 0))), mV 53 52, (.mk (some 54) (some (53, false)) (.pure (.mv (.t 7)))), (.mk (some 55) (some (53, false)) (.pure (.bin .gtr (.t 54) (.c (.i .i64 3))))), pU 56 (.pick (.t 53) (.c (.b true)) (.t 55)), mV 57 56, (.mk (some 58) (some (57, false)) (.pure (.mv (.t 7)))), (.mk (some 59) (some (57, false)) (.pure (.bin .eql (.t 58) (.c (.i .i64 0))))), (.mk (some 60) (some (57, false)) (.pure (.mv (.t 11)))), (.mk (some 61) (some (57, false)) (.pure (.bin .eql (.t 60) (.c (.i .i64 0))))), (.mk (some 62) (some (57, false)) (.pure (.beq true (.t 59) (.t 61)))), pU 63 (.pick (.t 57) (.c (.b true)) (.t 62)), mV 64 63, (.mk (some 65) (some (64, false)) (.pure (.mv (.t 11)))), (.mk (some 66) (some (64, false)) (.pure (.bin .eql (.t 65) (.c (.i .i64 0))))), (.mk (some 67) (some (64, false)) (.pure (.mv (.t 66)))), (.mk (some 68) (some (67, true)) (.pure (.mv (.t 10)))), (.mk (some 69) (some (67, true)) (.pure (.mv (.t 0)))), (.mk (some 70) (some (67, true)) (.pure (.len false (.t 69)))), (.mk (some 71) (some (67, true)) (.pure (.bin .gtr (.t 68) (.t 70)))), (.mk (some 72) (some (64, false)) (.pure (.pick (.t 67) (.t 71) (.c (.b false))))), pU 73 (.pick (.t 64) (.c (.b true)) (.t 72)), mV 74 73, (.mk (some 75) (some (74, false)) (.pure (.mv (.t 11)))), (.mk (some 76) (some (74, false)) (.pure (.bin .neq (.t 75) (.c (.i .i64 0))))), (.mk (some 77) (some (74, false)) (.pure (.mv (.t 76)))), (.mk (some 78) (some (77, true)) (.pure (.mv (.t 11)))), (.mk (some 79) (some (77, true)) (.pure (.bin .neq (.t 78) (.c (.i .i64 10))))), (.mk (some 80) (some (74, false)) (.pure (.pick (.t 77) (.t 79) (.c (.b false))))), pU 81 (.pick (.t 74) (.c (.b true)) (.t 80)), mV 82 81, (.mk (some 83) (some (82, false)) (.pure (.mv (.t 7)))), (.mk (some 84) (some (82, false)) (.pure (.bin .neq (.t 83) (.c (.i .i64 2))))), (.mk (some 85) (some (82, false)) (.pure (.mv (.t 84)))), (.mk (some 86) (some (85, true)) (.pure (.mv (.t 8)))),
 (.mk (some 87) (some (85, true)) (.pure (.bin .neq (.t 86) (.c (.i .i64 0))))), (.mk (some 88) (some (82, false)) (.pure (.pick (.t 85) (.t 87) (.c (.b false))))), pU 89 (.pick (.t 82) (.c (.b true)) (.t 88)), mV 90 89, (.mk (some 91) (some (90, false)) (.pure (.mv (.t 7)))), (.mk (some 92) (some (90, false)) (.pure (.bin .eql (.t 91) (.c (.i .i64 2))))), (.mk (some 93) (some (90, false)) (.pure (.mv (.t 92)))), (.mk (some 94) (some (93, true)) (.pure (.mv (.t 8)))), (.mk (some 95) (some (93, true)) (.pure (.bin .lss (.t 94) (.c (.i .i64 1))))), (.mk (some 96) (some (93, true)) (.pure (.mv (.t 95)))), (.mk (some 97) (some (96, false)) (.pure (.mv (.t 8)))), (.mk (some 98) (some (96, false)) (.pure (.mv (.t 0)))), (.mk (some 99) (some (96, false)) (.pure (.len false (.t 98)))), (.mk (some 100) (some (96, false)) (.pure (.bin .geq (.t 97) (.t 99)))), (.mk (some 101) (some (93, true)) (.pure (.pick (.t 96) (.c (.b true)) (.t 100)))), (.mk (some 102) (some (90, false)) (.pure (.pick (.t 93) (.t 101) (.c (.b false))))), pU 103 (.pick (.t 90) (.c (.b true)) (.t 102))]) (.cond (.t 103) (.seq (.ops [
  pU 6 (.mv (.c (.b false)))]) .ret) .skip)) (.seq (.seq (.ops [
  mV 104 7, pU 105 (.bin .eql (.t 104) (.c (.i .i64 3)))]) (.cond (.t 105) (.seq (.ops [
  mV 106 0, mV 107 1, nU 108 (.call 43 [(.t 106), (.t 107)]), mV 109 108, (.mk (some 110) (some (109, true)) (.call 16 [])), pU 111 (.pick (.t 109) (.t 110) (.c (.b false))), mV 6 111]) .ret) .skip)) (.seq (.seq (.ops [
  mV 112 7, pU 113 (.bin .eql (.t 112) (.c (.i .i64 0)))]) (.cond (.t 113) (.seq (.ops [
  mV 115 0, mV 116 1, mV 117 10, nU 118 (.call 19 [(.t 115), (.t 116), (.t 117)]), mV 114 118, pU 119 (.ext 0 (.t 114)), pU 120 (.ext 1 (.t 114)), mV 12 119, mV 13 120]) (.seq (.ops [
  mV 121 13, pU 122 (.bin .eql (.t 121) (.c (.i .i64 0))), mV 123 122, (.mk (some 124) (some (123, true)) (.pure (.mv (.t 12)))), (.mk (some 125) (some (123, true)) (.pure (.bin .eql (.t 124) (.c (.i .i64 0))))), pU 126 (.pick (.t 123) (.t 125) (.c (.b false))), mV 127 126, (.mk (some 128) (some (127, true)) (.call 16 [])), pU 129 (.pick (.t 127) (.t 128) (.c (.b false))), mV 6 129]) .ret)) .skip)) (.seq (.ops [
  mV 131 0, mV 132 1, mV 133 2, pU 134 (.bin .rem (.t 133) (.c (.i .u8 60))), pU 135 (.conv .i64 (.t 134)), pU 136 (.bin .add (.c (.i .i64 6)) (.t 135)), mV 137 8, pU 138 (.bin .add (.t 137) (.c (.i .i64 3))), nU 139 (.call 44 [(.t 131), (.t 132), (.t 136), (.t 138)]), mV 130 139, pU 140 (.ext 0 (.t 130)), pU 141 (.ext 1 (.t 130)), mV 14 140, mV 15 141]) (.seq (.seq (.ops [
  mV 142 15, pU 143 (.not (.t 142))]) (.cond (.t 143) (.seq (.ops [
  nU 144 (.call 16 []), mV 6 144]) .ret) .skip)) (.seq (.seq (.ops [
  pU 16 (.mv (.c (.i .i64 0)))]) (.block 0 (.loop (.seq (.seq (.ops [
  mV 145 16, mV 146 8, pU 147 (.bin .lss (.t 145) (.t 146))]) (.cond (.t 147) .skip (.exit 0))) (.seq (.block 1 (.ops [
  mV 150 14, nU 151 (.call 45 [(.t 150)]), mV 14 151])) (.ops [
  mV 148 16, pU 149 (.bin .add (.t 148) (.c (.i .i64 1))), mV 16 149])))))) (.seq (.flt [(
  mV 152 14, false), (
  pU 153 (.ixS 1 (.t 152) (.c (.i .i64 0))), false), (
  nU 154 (.ld true 1 (.t 153)), false), (
  pU 155 (.bin .gtr (.t 154) (.c (.i .i64 0))), false), (
  mV 156 155, false), (
  (.mk (some 157) (some (156, true)) (.pure (.mv (.t 14)))), false), (
  (.mk (some 158) (some (156, true)) (.pure (.ixS 1 (.t 157) (.c (.i .i64 0))))), false), (
  (.mk (some 159) (some (156, true)) (.ld true 1 (.t 158))), false), (
  (.mk (some 160) (some (156, true)) (.pure (.mv (.t 14)))), false), (
  (.mk (some 161) (some (156, true)) (.pure (.ixS 1 (.t 160) (.c (.i .i64 1))))), false), (
  (.mk (some 162) (some (156, true)) (.ld true 1 (.t 161))), false), (
  (.mk (some 163) (some (156, true)) (.pure (.bin .eql (.t 159) (.t 162)))), false), (
  pU 164 (.pick (.t 156) (.t 163) (.c (.b false))), false), (
  mV 165 164, false), (
  (.mk (some 166) (some (165, true)) (.pure (.mv (.t 14)))), false), (
  (.mk (some 167) (some (165, true)) (.pure (.ixS 1 (.t 166) (.c (.i .i64 1))))), false), (
  (.mk (some 168) (some (165, true)) (.ld true 1 (.t 167))), false), (
  (.mk (some 169) (some (165, true)) (.pure (.mv (.t 14)))), false), (
  (.mk (some 170) (some (165, true)) (.pure (.ixS 1 (.t 169) (.c (.i .i64 2))))), false), (
  (.mk (some 171) (some (165, true)) (.ld true 1 (.t 170))), false), (
  (.mk (some 172) (some (165, true)) (.pure (.bin .eql (.t 168) (.t 171)))), false), (
  pU 173 (.pick (.t 165) (.t 172) (.c (.b false))), false), (
  mV 174 173, false), (
  (.mk (some 175) (some (174, true)) (.call 16 [])), false), (
  pU 176 (.pick (.t 174) (.t 175) (.c (.b false))), false), (
  mV 6 176, false)]) .ret)))))))))))))
def fn15 : AFn := (AFn.mk 25 [(.t 4)] (.seq (.ops [
  pU 4 (.mv (.c (.b false)))]) (.seq (.seq (.ops [
  pU 5 (.mv (.c (.i .i64 0)))]) (.block 0 (.loop (.seq (.seq (.ops [
  mV 6 5, mV 7 0, pU 8 (.len false (.t 7)), pU 9 (.bin .lss (.t 6) (.t 8))]) (.cond (.t 9) .skip (.exit 0))) (.seq (.block 1 (.seq (.ops [
  mV 12 5, pU 13 (.bin .geq (.t 12) (.c (.i .i64 20))), mV 14 13, (.mk (some 15) (some (14, false)) (.pure (.mv (.t 0)))), (.mk (some 16) (some (14, false)) (.pure (.mv (.t 5)))), (.mk (some 17) (some (14, false)) (.pure (.ixS 1 (.t 15) (.t 16)))), (.mk (some 18) (some (14, false)) (.ld true 1 (.t 17))), (.mk (some 19) (some (14, false)) (.pure (.len true (.t 18)))), (.mk (some 20) (some (14, false)) (.pure (.bin .gtr (.t 19) (.c (.i .i64 50))))), pU 21 (.pick (.t 14) (.c (.b true)) (.t 20))]) (.cond (.t 21) (.seq (.ops [
  pU 4 (.mv (.c (.b false)))]) .ret) .skip))) (.ops [
  mV 10 5, pU 11 (.bin .add (.t 10) (.c (.i .i64 1))), mV 5 11])))))) (.seq (.ops [
  mV 22 1, pU 23 (.len true (.t 22)), pU 24 (.bin .leq (.t 23) (.c (.i .i64 100))), mV 4 24]) .ret))))
def fn16 : AFn := (AFn.mk 66 [(.t 0)] (.seq (.ops [
  pU 0 (.mv (.c (.b false)))]) (.seq (.ops [
  (.mk (some 11) none (.bsl 9 1 [(.s [])] 2 [((0, 1), (.c (.s [97, 98]))), ((1, 1), (.c (.s [97])))])), nU 12 (.call 17 [(.t 11), (.c (.s [97])), (.c (.i .i64 3))]), mV 10 12, pU 13 (.ext 0 (.t 10)), pU 14 (.ext 1 (.t 10)), mV 1 13, mV 2 14]) (.seq (.ops [
  (.mk (some 16) none (.bsl 9 1 [(.s [])] 2 [((0, 1), (.c (.s [97, 98]))), ((1, 1), (.c (.s [98])))])), nU 17 (.call 28 [(.t 16), (.c (.s [97]))]), mV 15 17, pU 18 (.ext 0 (.t 15)), pU 19 (.ext 1 (.t 15)), pU 20 (.ext 2 (.t 15)), mV 3 18, mV 4 19, mV 5 20]) (.seq (.ops [
  (.mk (some 22) none (.bsl 9 1 [(.s [])] 2 [((0, 1), (.c (.s [97, 98]))), ((1, 1), (.c (.s [98])))])), nU 23 (.call 40 [(.t 22), (.c (.s [97]))]), mV 21 23, pU 24 (.ext 0 (.t 21)), pU 25 (.ext 1 (.t 21)), mV 6 24, mV 7 25]) (.seq (.ops [
  (.mk (some 27) none (.bsl 9 1 [(.s [])] 2 [((0, 1), (.c (.s [97, 98]))), ((1, 1), (.c (.s [98, 97])))])), nU 28 (.call 38 [(.t 27), (.c (.s [97])), (.c (.i .i64 3))]), mV 26 28, pU 29 (.ext 0 (.t 26)), pU 30 (.ext 1 (.t 26)), mV 8 29, mV 9 30]) (.seq (.ops [
  mV 31 2, pU 32 (.bin .eql (.t 31) (.c (.i .i64 0))), mV 33 32, (.mk (some 34) (some (33, true)) (.pure (.mv (.t 1)))), (.mk (some 35) (some (33, true)) (.pure (.sbin .eql (.t 34) (.c (.s [97, 98, 97, 97, 98]))))), pU 36 (.pick (.t 33) (.t 35) (.c (.b false))), mV 37 36, (.mk (some 38) (some (37, true)) (.pure (.mv (.t 5)))), (.mk (some 39) (some (37, true)) (.pure (.bin .eql (.t 38) (.c (.i .i64 0))))), pU 40 (.pick (.t 37) (.t 39) (.c (.b false))), mV 41 40, (.mk (some 42) (some (41, true)) (.pure (.mv (.t 3)))), (.mk (some 43) (some (41, true)) (.pure (.bin .eql (.t 42) (.c (.i .i64 2))))), pU 44 (.pick (.t 41) (.t 43) (.c (.b false))), mV 45 44, (.mk (some 46) (some (45, true)) (.pure (.mv (.t 4)))), (.mk (some 47) (some (45, true)) (.pure (.bin .eql (.t 46) (.c (.i .i64 1))))), pU 48 (.pick (.t 45) (.t 47) (.c (.b false))), mV 49 48, (.mk (some 50) (some (49, true)) (.pure (.mv (.t 7)))), (.mk (some 51) (some (49, true)) (.pure (.bin .eql (.t 50) (.c (.i .i64 0))))), pU 52 (.pick (.t 49) (.t 51) (.c (.b false))), mV 53 52, (.mk (some 54) (some (53, true)) (.pure (.mv (.t 6)))), (.mk (some 55) (some (53, true)) (.bsl 3 1 [(.i .i64 0)] 2 [((0, 1), (.c (.i .i64 2))), ((1, 1), (.c (.i .i64 (-1))))])), (.mk (some 56) (some (53, true)) (.call 23 [(.t 54), (.t 55)])), pU 57 (.pick (.t 53) (.t 56) (.c (.b false))), mV 58 57, (.mk (some 59) (some (58, true)) (.pure (.mv (.t 9)))), (.mk (some 60) (some (58, true)) (.pure (.bin .eql (.t 59) (.c (.i .i64 0))))), pU 61 (.pick (.t 58) (.t 60) (.c (.b false))), mV 62 61, (.mk (some 63) (some (62, true)) (.pure (.mv (.t 8)))), (.mk (some 64) (some (62, true)) (.pure (.bin .eql (.t 63) (.c (.i .i64 6))))), pU 65 (.pick (.t 62) (.t 64) (.c (.b false))), mV 0 65]) .ret)))))))
def fn17 : AFn := (AFn.mk 35 [(.t 6), (.t 7)] (.seq (.ops [
  pU 6 (.mv (.c (.s []))), pU 7 (.mv (.c (.i .i64 0)))]) (.seq (.ops [
  mV 12 0, mV 13 1, mV 14 2, nU 15 (.call 47 [(.t 12), (.t 13), (.t 14)]), mV 11 15, pU 16 (.ext 0 (.t 11)), pU 17 (.ext 1 (.t 11)), mV 8 16, mV 9 17]) (.seq (.seq (.ops [
  mV 18 9, pU 19 (.bin .neq (.t 18) (.c (.i .i64 0)))]) (.cond (.t 19) (.seq (.ops [
  mV 20 9, pU 6 (.mv (.c (.s []))), mV 7 20]) .ret) .skip)) (.seq (.ops [
  mV 21 8, mV 22 2, nU 23 (.call 48 [(.t 21), (.t 22)]), mV 10 23]) (.seq (.seq (.ops [
  mV 24 10, mV 25 2, pU 26 (.ixS 1 (.t 24) (.t 25)), nU 27 (.ld true 1 (.t 26)), mV 28 1, nU 29 (.call 49 [(.t 27), (.t 28)]), pU 30 (.bin .gtr (.t 29) (.c (.i .u64 100000)))]) (.cond (.t 30) (.seq (.ops [
  pU 6 (.mv (.c (.s []))), pU 7 (.mv (.c (.i .i64 8)))]) .ret) .skip)) (.seq (.ops [
  mV 31 8, mV 32 1, mV 33 10, nU 34 (.call 50 [(.t 31), (.t 32), (.t 33)]), mV 6 34, pU 7 (.mv (.c (.i .i64 0)))]) .ret)))))))
def fn19 : AFn := (AFn.mk 33 [(.t 6), (.t 7)] (.seq (.ops [
  pU 6 (.mv (.c (.i .i64 0))), pU 7 (.mv (.c (.i .i64 0)))]) (.seq (.ops [
  mV 12 0, mV 13 1, mV 14 2, nU 15 (.call 47 [(.t 12), (.t 13), (.t 14)]), mV 11 15, pU 16 (.ext 0 (.t 11)), pU 17 (.ext 1 (.t 11)), mV 8 16, mV 9 17]) (.seq (.seq (.ops [
  mV 18 9, pU 19 (.bin .neq (.t 18) (.c (.i .i64 0)))]) (.cond (.t 19) (.seq (.ops [
  mV 20 9, pU 6 (.mv (.c (.i .i64 0))), mV 7 20]) .ret) .skip)) (.seq (.ops [
  mV 21 8, mV 22 2, nU 23 (.call 48 [(.t 21), (.t 22)]), mV 24 2, pU 25 (.ixS 1 (.t 23) (.t 24)), nU 26 (.ld true 1 (.t 25)), mV 27 1, nU 28 (.call 49 [(.t 26), (.t 27)]), mV 10 28]) (.seq (.seq (.ops [
  mV 29 10, pU 30 (.bin .gtr (.t 29) (.c (.i .u64 1152921504606846976)))]) (.cond (.t 30) (.seq (.ops [
  pU 6 (.mv (.c (.i .i64 0))), pU 7 (.mv (.c (.i .i64 4)))]) .ret) .skip)) (.seq (.ops [
  mV 31 10, pU 32 (.conv .i64 (.t 31)), mV 6 32, pU 7 (.mv (.c (.i .i64 0)))]) .ret)))))))
def fn21 : AFn := (AFn.mk 89 [(.t 6), (.t 7)] (.seq (.ops [
  pU 6 (.mv (.c .nsl)), pU 7 (.mv (.c (.i .i64 0)))]) (.seq (.ops [
  mV 18 0, mV 19 1, mV 20 2, nU 21 (.call 47 [(.t 18), (.t 19), (.t 20)]), mV 17 21, pU 22 (.ext 0 (.t 17)), pU 23 (.ext 1 (.t 17)), mV 8 22, mV 9 23]) (.seq (.seq (.ops [
  mV 24 9, pU 25 (.bin .neq (.t 24) (.c (.i .i64 0)))]) (.cond (.t 25) (.seq (.ops [
  mV 26 9, pU 6 (.mv (.c .nsl)), mV 7 26]) .ret) .skip)) (.seq (.ops [
  mV 27 8, pU 28 (.len false (.t 27)), nU 29 (.mk 63 1 24 [.nsl] (.t 28) (.t 28)), mV 10 29]) (.seq (.seq (.ops [
  mV 30 10, pU 31 (.len false (.t 30)), pU 32 (.mv (.c (.i .i64 0)))]) (.block 0 (.loop (.seq (.ops [
  pU 33 (.bin .lss (.t 32) (.t 31))]) (.seq (.cond (.t 33) .skip (.exit 0)) (.seq (.block 1 (.seq (.ops [
  mV 34 32, mV 11 34]) (.ops [
  mV 35 10, mV 36 11, (.mk (some 37) none (.bsl 61 1 [(.i .u64 0)] 1 [((0, 1), (.c (.i .u64 0)))])), pU 38 (.ixS 1 (.t 35) (.t 36)), (.mk none none (.st 1 (.t 38) (.t 37)))]))) (.ops [
  pU 39 (.bin .add (.t 32) (.c (.i .i64 1))), mV 32 39]))))))) (.seq (.seq (.ops [
  mV 40 1, pU 41 (.len true (.t 40)), pU 42 (.mv (.c (.i .i64 0)))]) (.block 2 (.loop (.seq (.ops [
  pU 43 (.bin .lss (.t 42) (.t 41))]) (.seq (.cond (.t 43) .skip (.exit 2)) (.seq (.block 3 (.seq (.ops [
  mV 44 42, mV 12 44]) (.ops [
  mV 45 10, mV 46 1, mV 47 12, pU 48 (.ixStr (.t 46) (.t 47)), nU 49 (.call 54 [(.t 48)]), pU 50 (.ixS 1 (.t 45) (.t 49)), nU 51 (.ld true 1 (.t 50)), pU 52 (.ixS 1 (.t 51) (.c (.i .i64 0))), nU 53 (.ld true 1 (.t 52)), pU 54 (.bin .add (.t 53) (.c (.i .u64 1))), pU 55 (.ixS 1 (.t 51) (.c (.i .i64 0))), (.mk none none (.st 1 (.t 55) (.t 54)))]))) (.ops [
  pU 56 (.bin .add (.t 42) (.c (.i .i64 1))), mV 42 56]))))))) (.seq (.ops [
  mV 57 8, nU 58 (.call 55 [(.t 57), (.c (.fn 56 [] []))]), mV 13 58]) (.seq (.seq (.ops [
  mV 59 2, pU 60 (.mv (.c (.i .i64 0)))]) (.block 4 (.loop (.seq (.ops [
  pU 61 (.bin .lss (.t 60) (.t 59))]) (.seq (.cond (.t 61) .skip (.exit 4)) (.seq (.block 5 (.ops [
  mV 62 13, mV 63 10, nU 64 (.call 57 [(.t 62), (.t 63)]), mV 10 64])) (.ops [
  pU 65 (.bin .add (.t 60) (.c (.i .i64 1))), mV 60 65]))))))) (.seq (.ops [
  mV 66 8, pU 67 (.len false (.t 66)), nU 68 (.mk 3 1 8 [(.i .i64 0)] (.t 67) (.t 67)), mV 14 68]) (.seq (.seq (.ops [
  mV 69 10, pU 70 (.len false (.t 69)), pU 71 (.mv (.c (.i .i64 0)))]) (.block 6 (.loop (.seq (.ops [
  pU 72 (.bin .lss (.t 71) (.t 70))]) (.seq (.cond (.t 72) .skip (.exit 6)) (.seq (.block 7 (.seq (.ops [
  mV 73 71, pU 74 (.ixS 1 (.t 69) (.t 71)), nU 75 (.ld true 1 (.t 74)), mV 15 73, mV 16 75]) (.seq (.seq (.ops [
  mV 76 16, pU 77 (.ixS 1 (.t 76) (.c (.i .i64 0))), nU 78 (.ld true 1 (.t 77)), pU 79 (.bin .gtr (.t 78) (.c (.i .u64 1152921504606846976)))]) (.cond (.t 79) (.seq (.ops [
  pU 6 (.mv (.c .nsl)), pU 7 (.mv (.c (.i .i64 4)))]) .ret) .skip)) (.ops [
  mV 80 14, mV 81 15, mV 82 16, pU 83 (.ixS 1 (.t 82) (.c (.i .i64 0))), nU 84 (.ld true 1 (.t 83)), pU 85 (.conv .i64 (.t 84)), pU 86 (.ixS 1 (.t 80) (.t 81)), (.mk none none (.st 1 (.t 86) (.t 85)))])))) (.ops [
  pU 87 (.bin .add (.t 71) (.c (.i .i64 1))), mV 71 87]))))))) (.seq (.ops [
  mV 88 14, mV 6 88, pU 7 (.mv (.c (.i .i64 0)))]) .ret))))))))))))
def fn23 : AFn := (AFn.mk 26 [(.t 4)] (.seq (.ops [
  pU 4 (.mv (.c (.b false)))]) (.seq (.seq (.ops [
  mV 6 0, pU 7 (.len false (.t 6)), mV 8 1, pU 9 (.len false (.t 8)), pU 10 (.bin .neq (.t 7) (.t 9))]) (.cond (.t 10) (.seq (.ops [
  pU 4 (.mv (.c (.b false)))]) .ret) .skip)) (.seq (.seq (.ops [
  pU 5 (.mv (.c (.i .i64 0)))]) (.block 0 (.loop (.seq (.seq (.ops [
  mV 11 5, mV 12 0, pU 13 (.len false (.t 12)), pU 14 (.bin .lss (.t 11) (.t 13))]) (.cond (.t 14) .skip (.exit 0))) (.seq (.block 1 (.seq (.any [(
  mV 17 0, false), (
  mV 18 5, false), (
  pU 19 (.ixS 1 (.t 17) (.t 18)), false), (
  nU 20 (.ld true 1 (.t 19)), false), (
  mV 21 1, false), (
  mV 22 5, false), (
  pU 23 (.ixS 1 (.t 21) (.t 22)), false), (
  nU 24 (.ld true 1 (.t 23)), false), (
  pU 25 (.bin .neq (.t 20) (.t 24)), false)]) (.cond (.t 25) (.seq (.ops [
  pU 4 (.mv (.c (.b false)))]) .ret) .skip))) (.ops [
  mV 15 5, pU 16 (.bin .add (.t 15) (.c (.i .i64 1))), mV 5 16])))))) (.seq (.ops [
  pU 4 (.mv (.c (.b true)))]) .ret)))))
def fn26 : AFn := (AFn.mk 28 [(.t 4), (.t 5)] (.seq (.ops [
  pU 4 (.mv (.c (.i .i64 0))), pU 5 (.mv (.c (.i .i64 0)))]) (.seq (.ops [
  mV 11 0, mV 12 1, nU 13 (.call 60 [(.t 11), (.t 12)]), mV 10 13, pU 14 (.ext 0 (.t 10)), pU 15 (.ext 1 (.t 10)), mV 6 14, mV 7 15]) (.seq (.seq (.ops [
  mV 16 7, pU 17 (.bin .neq (.t 16) (.c (.i .i64 0)))]) (.cond (.t 17) (.seq (.ops [
  mV 18 7, pU 4 (.mv (.c (.i .i64 0))), mV 5 18]) .ret) .skip)) (.seq (.ops [
  mV 20 6, mV 21 1, nU 22 (.call 61 [(.t 20), (.t 21)]), mV 19 22, pU 23 (.ext 0 (.t 19)), pU 24 (.ext 1 (.t 19)), mV 8 23, mV 9 24]) (.seq (.seq (.ops [
  mV 25 9, pU 26 (.not (.t 25))]) (.cond (.t 26) (.seq (.ops [
  pU 4 (.mv (.c (.i .i64 0))), pU 5 (.mv (.c (.i .i64 10)))]) .ret) .skip)) (.seq (.ops [
  mV 27 8, mV 4 27, pU 5 (.mv (.c (.i .i64 0)))]) .ret)))))))
def fn28 : AFn := (AFn.mk 49 [(.t 4), (.t 5), (.t 6)] (.seq (.ops [
  pU 4 (.mv (.c (.i .i64 0))), pU 5 (.mv (.c (.i .i64 0))), pU 6 (.mv (.c (.i .i64 0)))]) (.seq (.ops [
  mV 14 0, mV 15 1, nU 16 (.call 60 [(.t 14), (.t 15)]), mV 13 16, pU 17 (.ext 0 (.t 13)), pU 18 (.ext 1 (.t 13)), mV 7 17, mV 8 18]) (.seq (.seq (.ops [
  mV 19 8, pU 20 (.bin .neq (.t 19) (.c (.i .i64 0)))]) (.cond (.t 20) (.seq (.ops [
  mV 21 8, pU 4 (.mv (.c (.i .i64 0))), pU 5 (.mv (.c (.i .i64 0))), mV 6 21]) .ret) .skip)) (.seq (.ops [
  mV 22 7, mV 23 7, nU 24 (.call 63 [(.t 23)]), pU 25 (.build [.nsl, .nsl] [((0, 1), (.t 22)), ((1, 1), (.t 24))]), nU 9 (.al 85 [.nsl, .nsl]), (.mk none none (.st 2 (.t 9) (.t 25)))]) (.seq (.ops [
  pU 10 (.mv (.c (.i .i64 0)))]) (.seq (.seq (.ops [
  mV 26 1, pU 27 (.len true (.t 26)), pU 28 (.mv (.c (.i .i64 0)))]) (.block 0 (.loop (.seq (.ops [
  pU 29 (.bin .lss (.t 28) (.t 27))]) (.seq (.cond (.t 29) .skip (.exit 0)) (.seq (.block 1 (.seq (.ops [
  mV 30 28, mV 11 30]) (.seq (.ops [
  mV 31 1, mV 32 11, pU 33 (.ixStr (.t 31) (.t 32)), nU 34 (.call 54 [(.t 33)]), mV 12 34]) (.seq (.seq (.ops [
  nU 35 (.ld false 2 (.t 9)), mV 36 12, nU 37 (.call 64 [(.t 35), (.t 36)])]) (.cond (.t 37) (.seq (.ops [
  pU 4 (.mv (.c (.i .i64 3))), pU 5 (.mv (.c (.i .i64 0))), pU 6 (.mv (.c (.i .i64 0)))]) .ret) .skip)) (.ops [
  mV 38 10, nU 39 (.ld false 2 (.t 9)), mV 40 12, nU 41 (.call 65 [(.t 39), (.t 40)]), pU 42 (.mx true (.t 38) (.t 41)), mV 10 42]))))) (.ops [
  pU 43 (.bin .add (.t 28) (.c (.i .i64 1))), mV 28 43]))))))) (.seq (.seq (.ops [
  mV 44 10, pU 45 (.bin .lss (.t 44) (.c (.i .i64 2)))]) (.cond (.t 45) (.seq (.ops [
  mV 46 10, mV 4 46, pU 5 (.mv (.c (.i .i64 0))), pU 6 (.mv (.c (.i .i64 0)))]) .ret) .skip)) (.seq (.ops [
  mV 47 10, pU 48 (.bin .sub (.t 47) (.c (.i .i64 1))), pU 4 (.mv (.c (.i .i64 2))), mV 5 48, pU 6 (.mv (.c (.i .i64 0)))]) .ret)))))))))
def fn38 : AFn := (AFn.mk 59 [(.t 6), (.t 7)] (.seq (.ops [
  pU 6 (.mv (.c (.i .i64 0))), pU 7 (.mv (.c (.i .i64 0)))]) (.seq (.ops [
  mV 17 0, mV 18 1, nU 19 (.call 74 [(.t 17), (.t 18)]), mV 16 19, pU 20 (.ext 0 (.t 16)), pU 21 (.ext 1 (.t 16)), pU 22 (.ext 2 (.t 16)), mV 8 20, mV 9 21, mV 10 22]) (.seq (.seq (.ops [
  mV 23 10, pU 24 (.bin .neq (.t 23) (.c (.i .i64 0)))]) (.cond (.t 24) (.seq (.ops [
  mV 25 10, pU 6 (.mv (.c (.i .i64 0))), mV 7 25]) .ret) .skip)) (.seq (.seq (.ops [
  mV 26 2, pU 27 (.bin .lss (.t 26) (.c (.i .i64 1))), mV 28 27, (.mk (some 29) (some (28, false)) (.pure (.mv (.t 2)))), (.mk (some 30) (some (28, false)) (.pure (.bin .gtr (.t 29) (.c (.i .i64 10))))), pU 31 (.pick (.t 28) (.c (.b true)) (.t 30))]) (.cond (.t 31) (.seq (.ops [
  pU 6 (.mv (.c (.i .i64 0))), pU 7 (.mv (.c (.i .i64 2)))]) .ret) .skip)) (.seq (.ops [
  nU 11 (.al 52 [.nsl])]) (.seq (.seq (.ops [
  mV 32 8, mV 33 9, nU 34 (.call 75 [(.t 32), (.t 33)])]) (.block 0 (.rng (.t 34) [35, 36] (.ops [
  mV 13 36]) (.block 1 (.ops [
  nU 37 (.ld true 1 (.t 11)), mV 38 13, nU 39 (.bsl 5 1 [(.i .u8 0)] 1 [((0, 1), (.t 38))]), nU 40 (.app 5 1 1 [(.i .u8 0)] (.t 37) (.t 39)), (.mk none none (.st 1 (.t 11) (.t 40)))]))))) (.seq (.ops [
  (.mk (some 41) none .mkm), mV 14 41]) (.seq (.seq (.ops [
  mV 42 2, mV 15 42]) (.block 2 (.loop (.seq (.seq (.ops [
  mV 43 15, nU 44 (.ld true 1 (.t 11)), pU 45 (.len false (.t 44)), pU 46 (.bin .leq (.t 43) (.t 45))]) (.cond (.t 46) .skip (.exit 2))) (.seq (.block 3 (.ops [
  mV 49 14, nU 50 (.ld true 1 (.t 11)), mV 51 15, mV 52 2, pU 53 (.bin .sub (.t 51) (.t 52)), mV 54 15, pU 55 (.slS 1 (.t 50) (some (.t 53)) (some (.t 54)) none), nU 56 (.bts (.t 55)), (.mk none none (.mup (.t 49) (.t 56) (.c (.b true))))])) (.ops [
  mV 47 15, pU 48 (.bin .add (.t 47) (.c (.i .i64 1))), mV 15 48])))))) (.seq (.ops [
  mV 57 14, nU 58 (.mln (.t 57)), mV 6 58, pU 7 (.mv (.c (.i .i64 0)))]) .ret))))))))))
def fn40 : AFn := (AFn.mk 66 [(.t 4), (.t 5)] (.seq (.ops [
  pU 4 (.mv (.c .nsl)), pU 5 (.mv (.c (.i .i64 0)))]) (.seq (.ops [
  mV 15 0, mV 16 1, nU 17 (.call 60 [(.t 15), (.t 16)]), mV 14 17, pU 18 (.ext 0 (.t 14)), pU 19 (.ext 1 (.t 14)), mV 6 18, mV 7 19]) (.seq (.seq (.ops [
  mV 20 7, pU 21 (.bin .neq (.t 20) (.c (.i .i64 0)))]) (.cond (.t 21) (.seq (.ops [
  mV 22 7, pU 4 (.mv (.c .nsl)), mV 5 22]) .ret) .skip)) (.seq (.ops [
  mV 23 6, nU 24 (.call 79 [(.t 23), (.c (.fn 80 [] []))]), mV 8 24]) (.seq (.ops [
  mV 25 6, pU 26 (.len false (.t 25)), nU 27 (.mk 3 1 8 [(.i .i64 0)] (.t 26) (.t 26)), mV 9 27]) (.seq (.ops [
  mV 28 6, pU 29 (.len false (.t 28)), nU 30 (.call 81 [(.t 29)]), mV 10 30]) (.seq (.seq (.ops [
  mV 31 9, pU 32 (.len false (.t 31)), pU 33 (.mv (.c (.i .i64 0)))]) (.block 0 (.loop (.seq (.ops [
  pU 34 (.bin .lss (.t 33) (.t 32))]) (.seq (.cond (.t 34) .skip (.exit 0)) (.seq (.block 1 (.seq (.ops [
  mV 35 33, mV 11 35]) (.seq (.ops [
  mV 36 8, mV 37 10, nU 38 (.call 82 [(.t 36), (.t 37)]), mV 10 38]) (.seq (.ops [
  mV 39 10, nU 40 (.call 83 [(.t 39)]), mV 41 11, pU 42 (.bin .add (.t 41) (.c (.i .i64 1))), pU 43 (.bin .quo (.t 40) (.t 42)), mV 12 43]) (.seq (.seq (.ops [
  mV 44 10, pU 45 (.len false (.t 44)), pU 46 (.mv (.c (.i .i64 0)))]) (.block 2 (.loop (.seq (.ops [
  pU 47 (.bin .lss (.t 46) (.t 45))]) (.seq (.cond (.t 47) .skip (.exit 2)) (.seq (.block 3 (.seq (.ops [
  mV 48 46, mV 13 48]) (.ops [
  mV 49 10, mV 50 13, pU 51 (.ixS 1 (.t 49) (.t 50)), nU 52 (.ld true 1 (.t 51)), mV 53 13, pU 54 (.ixS 1 (.t 52) (.t 53)), nU 55 (.ld true 1 (.t 54)), mV 56 12, pU 57 (.bin .sub (.t 55) (.t 56)), pU 58 (.ixS 1 (.t 52) (.t 53)), (.mk none none (.st 1 (.t 58) (.t 57)))]))) (.ops [
  pU 59 (.bin .add (.t 46) (.c (.i .i64 1))), mV 46 59]))))))) (.ops [
  mV 60 9, mV 61 11, mV 62 12, pU 63 (.ixS 1 (.t 60) (.t 61)), (.mk none none (.st 1 (.t 63) (.t 62)))])))))) (.ops [
  pU 64 (.bin .add (.t 33) (.c (.i .i64 1))), mV 33 64]))))))) (.seq (.ops [
  mV 65 9, mV 4 65, pU 5 (.mv (.c (.i .i64 0)))]) .ret)))))))))
def fn43 : AFn := (AFn.mk 91 [(.t 4)] (.seq (.ops [
  pU 4 (.mv (.c (.b false)))]) (.seq (.seq (.ops [
  pU 5 (.mv (.c (.i .i64 0)))]) (.block 0 (.loop (.seq (.seq (.ops [
  mV 14 5, mV 15 0, pU 16 (.len false (.t 15)), pU 17 (.bin .lss (.t 14) (.t 16))]) (.cond (.t 17) .skip (.exit 0))) (.seq (.block 1 (.seq (.ops [
  mV 20 5, pU 21 (.bin .add (.c (.i .i64 97)) (.t 20)), pU 22 (.conv .u8 (.t 21)), nU 23 (.bsl 5 1 [(.i .u8 0)] 1 [((0, 1), (.t 22))]), nU 24 (.bts (.t 23)), mV 6 24]) (.seq (.ops [
  pU 7 (.mv (.c (.b false)))]) (.seq (.seq (.ops [
  pU 8 (.mv (.c (.i .i64 0)))]) (.block 2 (.loop (.seq (.seq (.ops [
  mV 25 8, mV 26 0, pU 27 (.len false (.t 26)), pU 28 (.bin .leq (.t 25) (.t 27))]) (.cond (.t 28) .skip (.exit 2))) (.seq (.block 3 (.seq (.ops [
  mV 32 0, mV 33 1, mV 34 8, nU 35 (.call 21 [(.t 32), (.t 33), (.t 34)]), mV 31 35, pU 36 (.ext 0 (.t 31)), pU 37 (.ext 1 (.t 31)), mV 9 36, mV 10 37]) (.ops [
  mV 38 7, mV 39 38, (.mk (some 40) (some (39, false)) (.pure (.mv (.t 10)))), (.mk (some 41) (some (39, false)) (.pure (.bin .eql (.t 40) (.c (.i .i64 0))))), (.mk (some 42) (some (39, false)) (.pure (.mv (.t 41)))), (.mk (some 43) (some (42, true)) (.pure (.mv (.t 9)))), (.mk (some 44) (some (42, true)) (.pure (.len false (.t 43)))), (.mk (some 45) (some (42, true)) (.pure (.mv (.t 0)))), (.mk (some 46) (some (42, true)) (.pure (.len false (.t 45)))), (.mk (some 47) (some (42, true)) (.pure (.bin .eql (.t 44) (.t 46)))), (.mk (some 48) (some (39, false)) (.pure (.pick (.t 42) (.t 47) (.c (.b false))))), (.mk (some 49) (some (39, false)) (.pure (.mv (.t 48)))), (.mk (some 50) (some (49, true)) (.pure (.mv (.t 9)))), (.mk (some 51) (some (49, true)) (.pure (.mv (.t 5)))), (.mk (some 52) (some (49, true)) (.pure (.ixS 1 (.t 50) (.t 51)))), (.mk (some 53) (some (49, true)) (.ld true 1 (.t 52))), (.mk (some 54) (some (49, true)) (.pure (.bin .gtr (.t 53) (.c (.i .i64 0))))), (.mk (some 55) (some (39, false)) (.pure (.pick (.t 49) (.t 54) (.c (.b false))))), pU 56 (.pick (.t 39) (.c (.b true)) (.t 55)), mV 7 56]))) (.ops [
  mV 29 8, pU 30 (.bin .add (.t 29) (.c (.i .i64 1))), mV 8 30])))))) (.seq (.ops [
  pU 11 (.mv (.c (.i .i64 1)))]) (.block 4 (.loop (.seq (.seq (.ops [
  mV 57 11, pU 58 (.bin .leq (.t 57) (.c (.i .i64 36))), mV 59 58, (.mk (some 60) (some (59, true)) (.pure (.mv (.t 7)))), pU 61 (.pick (.t 59) (.t 60) (.c (.b false)))]) (.cond (.t 61) .skip (.exit 4))) (.seq (.block 5 (.seq (.ops [
  mV 65 0, mV 66 6, mV 67 11, nU 68 (.call 21 [(.t 65), (.t 66), (.t 67)]), mV 64 68, pU 69 (.ext 0 (.t 64)), pU 70 (.ext 1 (.t 64)), mV 12 69, mV 13 70]) (.seq (.ops [
  mV 71 13, pU 72 (.bin .eql (.t 71) (.c (.i .i64 4))), mV 73 72, (.mk (some 74) (some (73, false)) (.pure (.mv (.t 13)))), (.mk (some 75) (some (73, false)) (.pure (.bin .eql (.t 74) (.c (.i .i64 0))))), (.mk (some 76) (some (73, false)) (.pure (.mv (.t 75)))), (.mk (some 77) (some (76, true)) (.pure (.mv (.t 12)))), (.mk (some 78) (some (76, true)) (.pure (.len false (.t 77)))), (.mk (some 79) (some (76, true)) (.pure (.mv (.t 0)))), (.mk (some 80) (some (76, true)) (.pure (.len false (.t 79)))), (.mk (some 81) (some (76, true)) (.pure (.bin .eql (.t 78) (.t 80)))), (.mk (some 82) (some (73, false)) (.pure (.pick (.t 76) (.t 81) (.c (.b false))))), (.mk (some 83) (some (73, false)) (.pure (.mv (.t 82)))), (.mk (some 84) (some (83, true)) (.pure (.mv (.t 12)))), (.mk (some 85) (some (83, true)) (.pure (.mv (.t 5)))), (.mk (some 86) (some (83, true)) (.pure (.ixS 1 (.t 84) (.t 85)))), (.mk (some 87) (some (83, true)) (.ld true 1 (.t 86))), (.mk (some 88) (some (83, true)) (.pure (.bin .geq (.t 87) (.c (.i .i64 2))))), (.mk (some 89) (some (73, false)) (.pure (.pick (.t 83) (.t 88) (.c (.b false))))), pU 90 (.pick (.t 73) (.c (.b true)) (.t 89))]) (.cond (.t 90) (.seq (.ops [
  pU 4 (.mv (.c (.b true)))]) .ret) .skip)))) (.ops [
  mV 62 11, pU 63 (.bin .add (.t 62) (.c (.i .i64 1))), mV 11 63])))))))))) (.ops [
  mV 18 5, pU 19 (.bin .add (.t 18) (.c (.i .i64 1))), mV 5 19])))))) (.seq (.ops [
  pU 4 (.mv (.c (.b false)))]) .ret))))
def fn44 : AFn := (AFn.mk 40 [(.t 8), (.t 9)] (.seq (.ops [
  pU 8 (.mv (.c .nsl)), pU 9 (.mv (.c (.b false)))]) (.seq (.ops [
  pU 10 (.mv (.c .nsl))]) (.seq (.seq (.ops [
  pU 11 (.mv (.c (.i .i64 0)))]) (.block 0 (.loop (.seq (.seq (.ops [
  mV 14 11, mV 15 3, pU 16 (.bin .lss (.t 14) (.t 15))]) (.cond (.t 16) .skip (.exit 0))) (.seq (.block 1 (.seq (.ops [
  mV 20 0, mV 21 1, mV 22 2, mV 23 11, pU 24 (.bin .mul (.c (.i .i64 60)) (.t 23)), pU 25 (.bin .add (.t 22) (.t 24)), nU 26 (.call 19 [(.t 20), (.t 21), (.t 25)]), mV 19 26, pU 27 (.ext 0 (.t 19)), pU 28 (.ext 1 (.t 19)), mV 12 27, mV 13 28]) (.seq (.seq (.ops [
  mV 29 13, pU 30 (.bin .neq (.t 29) (.c (.i .i64 0))), mV 31 30, (.mk (some 32) (some (31, false)) (.pure (.mv (.t 12)))), (.mk (some 33) (some (31, false)) (.pure (.bin .gtr (.t 32) (.c (.i .i64 1125899906842624))))), pU 34 (.pick (.t 31) (.c (.b true)) (.t 33))]) (.cond (.t 34) (.seq (.ops [
  pU 8 (.mv (.c .nsl)), pU 9 (.mv (.c (.b false)))]) .ret) .skip)) (.ops [
  mV 35 10, mV 36 12, nU 37 (.bsl 3 1 [(.i .i64 0)] 1 [((0, 1), (.t 36))]), nU 38 (.app 3 1 8 [(.i .i64 0)] (.t 35) (.t 37)), mV 10 38])))) (.ops [
  mV 17 11, pU 18 (.bin .add (.t 17) (.c (.i .i64 1))), mV 11 18])))))) (.seq (.ops [
  mV 39 10, mV 8 39, pU 9 (.mv (.c (.b true)))]) .ret)))))
def fn45 : AFn := (AFn.mk 25 [(.t 2)] (.seq (.ops [
  pU 2 (.mv (.c .nsl))]) (.seq (.ops [
  pU 3 (.mv (.c .nsl))]) (.seq (.seq (.ops [
  pU 4 (.mv (.c (.i .i64 1)))]) (.block 0 (.loop (.seq (.seq (.ops [
  mV 5 4, mV 6 0, pU 7 (.len false (.t 6)), pU 8 (.bin .lss (.t 5) (.t 7))]) (.cond (.t 8) .skip (.exit 0))) (.seq (.block 1 (.seq (.ops [
  mV 11 3, mV 12 0, mV 13 4, pU 14 (.ixS 1 (.t 12) (.t 13)), mV 16 0, mV 17 4, pU 18 (.bin .sub (.t 17) (.c (.i .i64 1))), pU 19 (.ixS 1 (.t 16) (.t 18))]) (.seq (.any [(
  nU 15 (.ld true 1 (.t 14)), false), (
  nU 20 (.ld true 1 (.t 19)), false)]) (.ops [
  pU 21 (.bin .sub (.t 15) (.t 20)), nU 22 (.bsl 3 1 [(.i .i64 0)] 1 [((0, 1), (.t 21))]), nU 23 (.app 3 1 8 [(.i .i64 0)] (.t 11) (.t 22)), mV 3 23])))) (.ops [
  mV 9 4, pU 10 (.bin .add (.t 9) (.c (.i .i64 1))), mV 4 10])))))) (.seq (.ops [
  mV 24 3, mV 2 24]) .ret)))))
def fn47 : AFn := (AFn.mk 26 [(.t 6), (.t 7)] (.seq (.ops [
  pU 6 (.mv (.c .nsl)), pU 7 (.mv (.c (.i .i64 0)))]) (.seq (.ops [
  mV 11 0, mV 12 1, nU 13 (.call 60 [(.t 11), (.t 12)]), mV 10 13, pU 14 (.ext 0 (.t 10)), pU 15 (.ext 1 (.t 10)), mV 8 14, mV 9 15]) (.seq (.seq (.ops [
  mV 16 9, pU 17 (.bin .neq (.t 16) (.c (.i .i64 0)))]) (.cond (.t 17) (.seq (.ops [
  mV 18 9, pU 6 (.mv (.c .nsl)), mV 7 18]) .ret) .skip)) (.seq (.seq (.ops [
  mV 19 2, pU 20 (.bin .lss (.t 19) (.c (.i .i64 0))), mV 21 20, (.mk (some 22) (some (21, false)) (.pure (.mv (.t 2)))), (.mk (some 23) (some (21, false)) (.pure (.bin .gtr (.t 22) (.c (.i .i64 1000))))), pU 24 (.pick (.t 21) (.c (.b true)) (.t 23))]) (.cond (.t 24) (.seq (.ops [
  pU 6 (.mv (.c .nsl)), pU 7 (.mv (.c (.i .i64 3)))]) .ret) .skip)) (.seq (.ops [
  mV 25 8, mV 6 25, pU 7 (.mv (.c (.i .i64 0)))]) .ret))))))
def fn48 : AFn := (AFn.mk 40 [(.t 4)] (.seq (.ops [
  pU 4 (.mv (.c .nsl))]) (.seq (.ops [
  mV 9 0, nU 10 (.call 55 [(.t 9), (.c (.fn 56 [] []))]), mV 5 10]) (.seq (.ops [
  mV 11 0, pU 12 (.len false (.t 11)), nU 13 (.mk 61 1 8 [(.i .u64 0)] (.t 12) (.t 12)), mV 6 13]) (.seq (.seq (.ops [
  mV 14 6, pU 15 (.len false (.t 14)), pU 16 (.mv (.c (.i .i64 0)))]) (.block 0 (.loop (.seq (.ops [
  pU 17 (.bin .lss (.t 16) (.t 15))]) (.seq (.cond (.t 17) .skip (.exit 0)) (.seq (.block 1 (.seq (.ops [
  mV 18 16, mV 7 18]) (.ops [
  mV 19 6, mV 20 7, pU 21 (.ixS 1 (.t 19) (.t 20)), (.mk none none (.st 1 (.t 21) (.c (.i .u64 1))))]))) (.ops [
  pU 22 (.bin .add (.t 16) (.c (.i .i64 1))), mV 16 22]))))))) (.seq (.ops [
  mV 23 6, nU 24 (.bsl 63 1 [.nsl] 1 [((0, 1), (.t 23))]), mV 8 24]) (.seq (.seq (.ops [
  mV 25 1, pU 26 (.mv (.c (.i .i64 0)))]) (.block 2 (.loop (.seq (.ops [
  pU 27 (.bin .lss (.t 26) (.t 25))]) (.seq (.cond (.t 27) .skip (.exit 2)) (.seq (.block 3 (.seq (.ops [
  mV 28 6, nU 29 (.bsl 63 1 [.nsl] 1 [((0, 1), (.t 28))]), mV 30 5, nU 31 (.call 57 [(.t 29), (.t 30)]), pU 32 (.ixS 1 (.t 31) (.c (.i .i64 0))), nU 33 (.ld true 1 (.t 32)), mV 6 33]) (.ops [
  mV 34 8, mV 35 6, nU 36 (.bsl 63 1 [.nsl] 1 [((0, 1), (.t 35))]), nU 37 (.app 63 1 24 [.nsl] (.t 34) (.t 36)), mV 8 37]))) (.ops [
  pU 38 (.bin .add (.t 26) (.c (.i .i64 1))), mV 26 38]))))))) (.seq (.ops [
  mV 39 8, mV 4 39]) .ret))))))))
def fn49 : AFn := (AFn.mk 23 [(.t 4)] (.seq (.ops [
  pU 4 (.mv (.c (.i .u64 0)))]) (.seq (.ops [
  pU 5 (.mv (.c (.i .u64 0)))]) (.seq (.seq (.ops [
  mV 7 1, pU 8 (.len true (.t 7)), pU 9 (.mv (.c (.i .i64 0)))]) (.block 0 (.loop (.seq (.ops [
  pU 10 (.bin .lss (.t 9) (.t 8))]) (.seq (.cond (.t 10) .skip (.exit 0)) (.seq (.block 1 (.seq (.ops [
  mV 11 9, mV 6 11]) (.ops [
  mV 12 5, mV 13 0, mV 14 1, mV 15 6, pU 16 (.ixStr (.t 14) (.t 15)), nU 17 (.call 54 [(.t 16)]), pU 18 (.ixS 1 (.t 13) (.t 17)), nU 19 (.ld true 1 (.t 18)), nU 20 (.call 86 [(.t 12), (.t 19)]), mV 5 20]))) (.ops [
  pU 21 (.bin .add (.t 9) (.c (.i .i64 1))), mV 9 21]))))))) (.seq (.ops [
  mV 22 5, mV 4 22]) .ret)))))
def fn50 : AFn := (AFn.mk 20 [(.t 6)] (.seq (.ops [
  pU 6 (.mv (.c (.s [])))]) (.seq (.ops [
  nU 7 (.al 52 [.nsl])]) (.seq (.seq (.ops [
  mV 9 0, mV 10 1, mV 11 2, nU 12 (.call 59 [(.t 9), (.c (.i .u64 0)), (.t 10), (.t 11)])]) (.block 0 (.rng (.t 12) [13] (.ops [
  mV 8 13]) (.block 1 (.ops [
  nU 14 (.ld true 1 (.t 7)), mV 15 8, nU 16 (.bsl 5 1 [(.i .u8 0)] 1 [((0, 1), (.t 15))]), nU 17 (.app 5 1 1 [(.i .u8 0)] (.t 14) (.t 16)), (.mk none none (.st 1 (.t 7) (.t 17)))]))))) (.seq (.ops [
  nU 18 (.ld true 1 (.t 7)), nU 19 (.bts (.t 18)), mV 6 19]) .ret)))))
def fn54 : AFn := (AFn.mk 6 [(.t 2)] (.seq (.ops [
  pU 2 (.mv (.c (.i .i64 0)))]) (.seq (.ops [
  mV 3 0, pU 4 (.conv .i64 (.t 3)), pU 5 (.bin .sub (.t 4) (.c (.i .i64 97))), mV 2 5]) .ret)))
def fn55 : AFn := (AFn.mk 41 [(.t 4)] (.seq (.ops [
  pU 4 (.mv (.c .nsl))]) (.seq (.ops [
  mV 9 0, pU 10 (.len false (.t 9)), nU 11 (.mk 63 1 24 [.nsl] (.t 10) (.t 10)), mV 5 11]) (.seq (.seq (.ops [
  mV 12 0, pU 13 (.len false (.t 12)), pU 14 (.mv (.c (.i .i64 0)))]) (.block 0 (.loop (.seq (.ops [
  pU 15 (.bin .lss (.t 14) (.t 13))]) (.seq (.cond (.t 15) .skip (.exit 0)) (.seq (.block 1 (.seq (.ops [
  mV 16 14, mV 6 16]) (.seq (.ops [
  mV 17 0, pU 18 (.len false (.t 17)), pU 19 (.mv (.c (.i .i64 0)))]) (.block 2 (.loop (.seq (.ops [
  pU 20 (.bin .lss (.t 19) (.t 18))]) (.seq (.cond (.t 20) .skip (.exit 2)) (.seq (.block 3 (.seq (.ops [
  pU 21 (.ixS 1 (.t 17) (.t 19)), nU 22 (.ld true 1 (.t 21)), mV 8 22]) (.flt [(
  mV 23 5, false), (
  mV 24 6, false), (
  mV 25 5, false), (
  mV 26 6, false), (
  pU 27 (.ixS 1 (.t 25) (.t 26)), false), (
  nU 28 (.ld true 1 (.t 27)), true), (
  mV 29 1, false), (
  mV 30 8, false), (
  mV 31 6, false), (
  nU 32 (.call 89 [(.t 31)]), false), (
  nU 33 (.call 88 [(.t 30), (.t 32)]), false), (
  nU 34 (.callv (.t 29) [(.t 33)]), false), (
  nU 35 (.bsl 61 1 [(.i .u64 0)] 1 [((0, 1), (.t 34))]), false), (
  nU 36 (.app 61 1 8 [(.i .u64 0)] (.t 28) (.t 35)), true), (
  pU 37 (.ixS 1 (.t 23) (.t 24)), false), (
  (.mk none none (.st 1 (.t 37) (.t 36))), true)]))) (.ops [
  pU 38 (.bin .add (.t 19) (.c (.i .i64 1))), mV 19 38]))))))))) (.ops [
  pU 39 (.bin .add (.t 14) (.c (.i .i64 1))), mV 14 39]))))))) (.seq (.ops [
  mV 40 5, mV 4 40]) .ret)))))
def fn56 : AFn := (AFn.mk 5 [(.t 2)] (.seq (.ops [
  pU 2 (.mv (.c (.i .u64 0)))]) (.seq (.ops [
  mV 3 0, pU 4 (.conv .u64 (.t 3)), mV 2 4]) .ret)))
def fn57 : AFn := (AFn.mk 73 [(.t 4)] (.seq (.ops [
  pU 4 (.mv (.c .nsl))]) (.seq (.ops [
  mV 11 0, pU 12 (.len false (.t 11)), nU 13 (.mk 63 1 24 [.nsl] (.t 12) (.t 12)), mV 5 13]) (.seq (.seq (.ops [
  mV 14 0, pU 15 (.len false (.t 14)), pU 16 (.mv (.c (.i .i64 0)))]) (.block 0 (.loop (.seq (.ops [
  pU 17 (.bin .lss (.t 16) (.t 15))]) (.seq (.cond (.t 17) .skip (.exit 0)) (.seq (.block 1 (.seq (.ops [
  mV 18 16, pU 19 (.ixS 1 (.t 14) (.t 16)), nU 20 (.ld true 1 (.t 19)), mV 6 18, mV 7 20]) (.seq (.ops [
  mV 21 5, mV 22 6, mV 23 1, pU 24 (.ixS 1 (.t 23) (.c (.i .i64 0))), nU 25 (.ld true 1 (.t 24)), pU 26 (.len false (.t 25)), nU 27 (.mk 61 1 8 [(.i .u64 0)] (.t 26) (.t 26)), pU 28 (.ixS 1 (.t 21) (.t 22)), (.mk none none (.st 1 (.t 28) (.t 27)))]) (.seq (.ops [
  mV 29 5, mV 30 6, pU 31 (.ixS 1 (.t 29) (.t 30)), nU 32 (.ld true 1 (.t 31)), pU 33 (.len false (.t 32)), pU 34 (.mv (.c (.i .i64 0)))]) (.block 2 (.loop (.seq (.ops [
  pU 35 (.bin .lss (.t 34) (.t 33))]) (.seq (.cond (.t 35) .skip (.exit 2)) (.seq (.block 3 (.seq (.ops [
  mV 36 34, mV 8 36]) (.seq (.ops [
  mV 37 7, pU 38 (.len false (.t 37)), pU 39 (.mv (.c (.i .i64 0)))]) (.block 4 (.loop (.seq (.ops [
  pU 40 (.bin .lss (.t 39) (.t 38))]) (.seq (.cond (.t 40) .skip (.exit 4)) (.seq (.block 5 (.seq (.ops [
  mV 41 39, pU 42 (.ixS 1 (.t 37) (.t 39)), nU 43 (.ld true 1 (.t 42)), mV 9 41, mV 10 43]) (.flt [(
  mV 44 5, false), (
  mV 45 6, false), (
  pU 46 (.ixS 1 (.t 44) (.t 45)), false), (
  nU 47 (.ld true 1 (.t 46)), true), (
  mV 48 8, false), (
  mV 49 5, false), (
  mV 50 6, false), (
  pU 51 (.ixS 1 (.t 49) (.t 50)), false), (
  nU 52 (.ld true 1 (.t 51)), true), (
  mV 53 8, false), (
  pU 54 (.ixS 1 (.t 52) (.t 53)), false), (
  nU 55 (.ld true 1 (.t 54)), true), (
  pU 56 (.mki 61 (.t 55)), false), (
  mV 57 10, false), (
  pU 58 (.mki 61 (.t 57)), false), (
  mV 59 1, false), (
  mV 60 9, false), (
  pU 61 (.ixS 1 (.t 59) (.t 60)), false), (
  nU 62 (.ld true 1 (.t 61)), false), (
  mV 63 8, false), (
  pU 64 (.ixS 1 (.t 62) (.t 63)), false), (
  nU 65 (.ld true 1 (.t 64)), false), (
  nU 66 (.calli [(61, (126, [])), (106, (129, [])), (122, (131, []))] (.t 58) [(.t 65)]), false), (
  nU 67 (.calli [(61, (86, [])), (106, (128, [])), (122, (130, []))] (.t 56) [(.t 66)]), false), (
  pU 68 (.ixS 1 (.t 47) (.t 48)), false), (
  (.mk none none (.st 1 (.t 68) (.t 67))), true)]))) (.ops [
  pU 69 (.bin .add (.t 39) (.c (.i .i64 1))), mV 39 69]))))))))) (.ops [
  pU 70 (.bin .add (.t 34) (.c (.i .i64 1))), mV 34 70])))))))))) (.ops [
  pU 71 (.bin .add (.t 16) (.c (.i .i64 1))), mV 16 71]))))))) (.seq (.ops [
  mV 72 5, mV 4 72]) .ret)))))
def fn59 : AFn := (AFn.mk 10 [(.t 8)] (.seq (.ops [
  nU 4 (.bx 55 1 (.t 0)), nU 5 (.bx 61 1 (.t 1)), nU 6 (.bx 9 1 (.t 2)), nU 7 (.bx 58 1 (.t 3)), pU 8 (.mv (.c .nfn))]) (.seq (.ops [
  pU 9 (.mkfn 90 [] [(.t 5), (.t 7), (.t 4), (.t 6)]), mV 8 9]) .ret)))
def fn60 : AFn := (AFn.mk 26 [(.t 4), (.t 5)] (.seq (.ops [
  pU 4 (.mv (.c .nsl)), pU 5 (.mv (.c (.i .i64 0)))]) (.seq (.ops [
  mV 9 0, nU 10 (.call 71 [(.t 9)]), mV 8 10, pU 11 (.ext 0 (.t 8)), pU 12 (.ext 1 (.t 8)), mV 6 11, mV 7 12]) (.seq (.seq (.ops [
  mV 13 7, pU 14 (.bin .neq (.t 13) (.c (.i .i64 0)))]) (.cond (.t 14) (.seq (.ops [
  mV 15 7, pU 4 (.mv (.c .nsl)), mV 5 15]) .ret) .skip)) (.seq (.seq (.ops [
  mV 16 1, pU 17 (.len true (.t 16)), pU 18 (.bin .gtr (.t 17) (.c (.i .i64 30))), mV 19 18, (.mk (some 20) (some (19, false)) (.pure (.mv (.t 6)))), (.mk (some 21) (some (19, false)) (.pure (.mv (.t 1)))), (.mk (some 22) (some (19, false)) (.call 92 [(.t 20), (.t 21)])), (.mk (some 23) (some (19, false)) (.pure (.not (.t 22)))), pU 24 (.pick (.t 19) (.c (.b true)) (.t 23))]) (.cond (.t 24) (.seq (.ops [
  pU 4 (.mv (.c .nsl)), pU 5 (.mv (.c (.i .i64 5)))]) .ret) .skip)) (.seq (.ops [
  mV 25 6, mV 4 25, pU 5 (.mv (.c (.i .i64 0)))]) .ret))))))
def fn61 : AFn := (AFn.mk 24 [(.t 4), (.t 5)] (.seq (.ops [
  pU 4 (.mv (.c (.i .i64 0))), pU 5 (.mv (.c (.b false)))]) (.seq (.seq (.ops [
  mV 8 0, mV 9 0, pU 10 (.len false (.t 9)), nU 11 (.call 48 [(.t 8), (.t 10)]), pU 12 (.len false (.t 11)), pU 13 (.mv (.c (.i .i64 0)))]) (.block 0 (.loop (.seq (.ops [
  pU 14 (.bin .lss (.t 13) (.t 12))]) (.seq (.cond (.t 14) .skip (.exit 0)) (.seq (.block 1 (.seq (.ops [
  mV 15 13, pU 16 (.ixS 1 (.t 11) (.t 13)), nU 17 (.ld true 1 (.t 16)), mV 6 15, mV 7 17]) (.seq (.ops [
  mV 18 7, mV 19 1, nU 20 (.call 49 [(.t 18), (.t 19)]), pU 21 (.bin .eql (.t 20) (.c (.i .u64 0)))]) (.cond (.t 21) (.seq (.ops [
  mV 22 6, mV 4 22, pU 5 (.mv (.c (.b true)))]) .ret) .skip)))) (.ops [
  pU 23 (.bin .add (.t 13) (.c (.i .i64 1))), mV 13 23]))))))) (.seq (.ops [
  pU 4 (.mv (.c (.i .i64 0))), pU 5 (.mv (.c (.b false)))]) .ret))))
def fn63 : AFn := (AFn.mk 31 [(.t 2)] (.seq (.ops [
  pU 2 (.mv (.c .nsl))]) (.seq (.ops [
  mV 6 0, nU 7 (.call 93 [(.t 6), (.c (.fn 94 [] []))]), mV 8 0, nU 9 (.call 93 [(.t 8), (.c (.fn 94 [] []))]), mV 3 7, mV 4 9]) (.seq (.seq (.ops [
  mV 10 4, pU 11 (.len false (.t 10)), pU 12 (.mv (.c (.i .i64 0)))]) (.block 0 (.loop (.seq (.ops [
  pU 13 (.bin .lss (.t 12) (.t 11))]) (.seq (.cond (.t 13) .skip (.exit 0)) (.seq (.block 1 (.seq (.ops [
  mV 14 12, mV 5 14]) (.ops [
  mV 15 4, mV 16 5, pU 17 (.ixS 1 (.t 15) (.t 16)), nU 18 (.ld true 1 (.t 17)), mV 19 5, pU 20 (.ixS 1 (.t 18) (.t 19)), (.mk none none (.st 1 (.t 20) (.c (.b true))))]))) (.ops [
  pU 21 (.bin .add (.t 12) (.c (.i .i64 1))), mV 12 21]))))))) (.seq (.seq (.ops [
  mV 22 0, pU 23 (.len false (.t 22)), pU 24 (.mv (.c (.i .i64 0)))]) (.block 2 (.loop (.seq (.ops [
  pU 25 (.bin .lss (.t 24) (.t 23))]) (.seq (.cond (.t 25) .skip (.exit 2)) (.seq (.block 3 (.ops [
  mV 26 3, mV 27 4, nU 28 (.call 95 [(.t 26), (.t 27)]), mV 3 28])) (.ops [
  pU 29 (.bin .add (.t 24) (.c (.i .i64 1))), mV 24 29]))))))) (.seq (.ops [
  mV 30 3, mV 2 30]) .ret))))))
def fn64 : AFn := (AFn.mk 31 [(.t 4)] (.seq (.ops [
  nU 2 (.bx 85 2 (.t 0)), pU 4 (.mv (.c (.b false)))]) (.seq (.seq (.ops [
  pU 6 (.faddr 0 (.t 2)), nU 7 (.ld true 1 (.t 6)), pU 8 (.len false (.t 7)), pU 9 (.mv (.c (.i .i64 0)))]) (.block 0 (.loop (.seq (.ops [
  pU 10 (.bin .lss (.t 9) (.t 8))]) (.seq (.cond (.t 10) .skip (.exit 0)) (.seq (.block 1 (.seq (.ops [
  mV 11 9, mV 5 11]) (.seq (.ops [
  mV 12 5, mV 13 1, pU 14 (.bin .eql (.t 12) (.t 13)), mV 15 14, (.mk (some 16) (some (15, false)) (.pure (.faddr 1 (.t 2)))), (.mk (some 17) (some (15, false)) (.ld true 1 (.t 16))), (.mk (some 18) (some (15, false)) (.pure (.mv (.t 5)))), (.mk (some 19) (some (15, false)) (.pure (.ixS 1 (.t 17) (.t 18)))), (.mk (some 20) (some (15, false)) (.ld true 1 (.t 19))), (.mk (some 21) (some (15, false)) (.pure (.mv (.t 1)))), (.mk (some 22) (some (15, false)) (.pure (.ixS 1 (.t 20) (.t 21)))), (.mk (some 23) (some (15, false)) (.ld true 1 (.t 22))), pU 24 (.pick (.t 15) (.c (.b true)) (.t 23)), mV 25 24, (.mk (some 26) (some (25, true)) (.ld false 2 (.t 2))), (.mk (some 27) (some (25, true)) (.pure (.mv (.t 5)))), (.mk (some 28) (some (25, true)) (.call 96 [(.t 26), (.t 27)])), pU 29 (.pick (.t 25) (.t 28) (.c (.b false)))]) (.cond (.t 29) (.seq (.ops [
  pU 4 (.mv (.c (.b true)))]) .ret) .skip)))) (.ops [
  pU 30 (.bin .add (.t 9) (.c (.i .i64 1))), mV 9 30]))))))) (.seq (.ops [
  pU 4 (.mv (.c (.b false)))]) .ret))))
def fn65 : AFn := (AFn.mk 49 [(.t 4)] (.seq (.ops [
  nU 2 (.bx 85 2 (.t 0)), pU 4 (.mv (.c (.i .i64 0)))]) (.seq (.ops [
  pU 5 (.mv (.c (.i .i64 0)))]) (.seq (.seq (.ops [
  pU 7 (.faddr 0 (.t 2)), nU 8 (.ld true 1 (.t 7)), pU 9 (.len false (.t 8)), pU 10 (.mv (.c (.i .i64 0)))]) (.block 0 (.loop (.seq (.ops [
  pU 11 (.bin .lss (.t 10) (.t 9))]) (.seq (.cond (.t 11) .skip (.exit 0)) (.seq (.block 1 (.seq (.ops [
  mV 12 10, mV 6 12]) (.seq (.ops [
  pU 13 (.faddr 1 (.t 2)), nU 14 (.ld true 1 (.t 13)), mV 15 6, pU 16 (.ixS 1 (.t 14) (.t 15)), nU 17 (.ld true 1 (.t 16)), mV 18 1, pU 19 (.ixS 1 (.t 17) (.t 18)), nU 20 (.ld true 1 (.t 19)), mV 21 20, (.mk (some 22) (some (21, true)) (.pure (.faddr 1 (.t 2)))), (.mk (some 23) (some (21, true)) (.ld true 1 (.t 22))), (.mk (some 24) (some (21, true)) (.pure (.mv (.t 1)))), (.mk (some 25) (some (21, true)) (.pure (.ixS 1 (.t 23) (.t 24)))), (.mk (some 26) (some (21, true)) (.ld true 1 (.t 25))), (.mk (some 27) (some (21, true)) (.pure (.mv (.t 6)))), (.mk (some 28) (some (21, true)) (.pure (.ixS 1 (.t 26) (.t 27)))), (.mk (some 29) (some (21, true)) (.ld true 1 (.t 28))), (.mk (some 30) (some (21, true)) (.pure (.not (.t 29)))), pU 31 (.pick (.t 21) (.t 30) (.c (.b false)))]) (.cond (.t 31) (.ops [
  mV 32 5, nU 33 (.ld false 2 (.t 2)), mV 34 6, nU 35 (.call 65 [(.t 33), (.t 34)]), pU 36 (.mx true (.t 32) (.t 35)), mV 5 36]) .skip)))) (.ops [
  pU 37 (.bin .add (.t 10) (.c (.i .i64 1))), mV 10 37]))))))) (.seq (.seq (.ops [
  pU 38 (.faddr 1 (.t 2)), nU 39 (.ld true 1 (.t 38)), mV 40 1, pU 41 (.ixS 1 (.t 39) (.t 40)), nU 42 (.ld true 1 (.t 41)), mV 43 1, pU 44 (.ixS 1 (.t 42) (.t 43)), nU 45 (.ld true 1 (.t 44))]) (.cond (.t 45) (.ops [
  mV 46 5, pU 47 (.bin .add (.t 46) (.c (.i .i64 1))), mV 5 47]) .skip)) (.seq (.ops [
  mV 48 5, mV 4 48]) .ret))))))
def fn71 : AFn := (AFn.mk 33 [(.t 2), (.t 3)] (.seq (.ops [
  pU 2 (.mv (.c .nsl)), pU 3 (.mv (.c (.i .i64 0)))]) (.seq (.seq (.ops [
  mV 7 0, pU 8 (.len false (.t 7)), pU 9 (.bin .lss (.t 8) (.c (.i .i64 1))), mV 10 9, (.mk (some 11) (some (10, false)) (.pure (.mv (.t 0)))), (.mk (some 12) (some (10, false)) (.pure (.len false (.t 11)))), (.mk (some 13) (some (10, false)) (.pure (.bin .gtr (.t 12) (.c (.i .i64 6))))), pU 14 (.pick (.t 10) (.c (.b true)) (.t 13))]) (.cond (.t 14) (.seq (.ops [
  pU 2 (.mv (.c .nsl)), pU 3 (.mv (.c (.i .i64 2)))]) .ret) .skip)) (.seq (.ops [
  mV 15 0, mV 4 15]) (.seq (.seq (.ops [
  mV 16 4, pU 17 (.len false (.t 16)), pU 18 (.mv (.c (.i .i64 0)))]) (.block 0 (.loop (.seq (.ops [
  pU 19 (.bin .lss (.t 18) (.t 17))]) (.seq (.cond (.t 19) .skip (.exit 0)) (.seq (.block 1 (.seq (.ops [
  pU 20 (.ixS 1 (.t 16) (.t 18)), nU 21 (.ld true 1 (.t 20)), mV 6 21]) (.seq (.ops [
  mV 22 6, pU 23 (.len true (.t 22)), pU 24 (.bin .gtr (.t 23) (.c (.i .i64 8))), mV 25 24, (.mk (some 26) (some (25, false)) (.pure (.mv (.t 4)))), (.mk (some 27) (some (25, false)) (.pure (.mv (.t 6)))), (.mk (some 28) (some (25, false)) (.call 92 [(.t 26), (.t 27)])), (.mk (some 29) (some (25, false)) (.pure (.not (.t 28)))), pU 30 (.pick (.t 25) (.c (.b true)) (.t 29))]) (.cond (.t 30) (.seq (.ops [
  pU 2 (.mv (.c .nsl)), pU 3 (.mv (.c (.i .i64 5)))]) .ret) .skip)))) (.ops [
  pU 31 (.bin .add (.t 18) (.c (.i .i64 1))), mV 18 31]))))))) (.seq (.ops [
  mV 32 4, mV 2 32, pU 3 (.mv (.c (.i .i64 0)))]) .ret))))))
def fn72 : AFn := (AFn.mk 29 [(.t 4)] (.seq (.ops [
  pU 4 (.mv (.c (.b false)))]) (.seq (.flt [(
  mV 10 0, false), (
  mV 11 1, false), (
  pU 12 (.ixS 1 (.t 10) (.t 11)), false), (
  nU 13 (.ld true 1 (.t 12)), true), (
  mV 14 1, false), (
  nU 15 (.call 89 [(.t 14)]), false), (
  nU 16 (.call 97 [(.t 13), (.t 15)]), true), (
  mV 9 16, false), (
  pU 17 (.ext 0 (.t 9)), false), (
  pU 18 (.ext 1 (.t 9)), false), (
  mV 5 17, false), (
  mV 6 18, false)]) (.seq (.seq (.ops [
  mV 19 6, pU 20 (.not (.t 19))]) (.cond (.t 20) (.seq (.ops [
  pU 4 (.mv (.c (.b false)))]) .ret) .skip)) (.seq (.ops [
  mV 22 0, mV 23 5, nU 24 (.call 61 [(.t 22), (.t 23)]), mV 21 24, pU 25 (.ext 0 (.t 21)), pU 26 (.ext 1 (.t 21)), mV 7 25, mV 8 26]) (.seq (.ops [
  mV 27 8, pU 28 (.not (.t 27)), mV 4 28]) .ret))))))
def fn74 : AFn := (AFn.mk 36 [(.t 4), (.t 5), (.t 6)] (.seq (.ops [
  pU 4 (.mv (.c .nsl)), pU 5 (.mv (.c (.i .i64 0))), pU 6 (.mv (.c (.i .i64 0)))]) (.seq (.ops [
  mV 11 0, nU 12 (.call 71 [(.t 11)]), mV 10 12, pU 13 (.ext 0 (.t 10)), pU 14 (.ext 1 (.t 10)), mV 7 13, mV 8 14]) (.seq (.seq (.ops [
  mV 15 8, pU 16 (.bin .neq (.t 15) (.c (.i .i64 0)))]) (.cond (.t 16) (.seq (.ops [
  mV 17 8, pU 4 (.mv (.c .nsl)), pU 5 (.mv (.c (.i .i64 0))), mV 6 17]) .ret) .skip)) (.seq (.seq (.ops [
  mV 18 1, pU 19 (.len true (.t 18)), pU 20 (.bin .neq (.t 19) (.c (.i .i64 1))), mV 21 20, (.mk (some 22) (some (21, false)) (.pure (.mv (.t 7)))), (.mk (some 23) (some (21, false)) (.pure (.mv (.t 1)))), (.mk (some 24) (some (21, false)) (.call 92 [(.t 22), (.t 23)])), (.mk (some 25) (some (21, false)) (.pure (.not (.t 24)))), pU 26 (.pick (.t 21) (.c (.b true)) (.t 25))]) (.cond (.t 26) (.seq (.ops [
  pU 4 (.mv (.c .nsl)), pU 5 (.mv (.c (.i .i64 0))), pU 6 (.mv (.c (.i .i64 5)))]) .ret) .skip)) (.seq (.ops [
  mV 27 1, pU 28 (.ixStr (.t 27) (.c (.i .i64 0))), nU 29 (.call 54 [(.t 28)]), mV 9 29]) (.seq (.seq (.ops [
  mV 30 7, mV 31 9, nU 32 (.call 72 [(.t 30), (.t 31)]), pU 33 (.not (.t 32))]) (.cond (.t 33) (.seq (.ops [
  pU 4 (.mv (.c .nsl)), pU 5 (.mv (.c (.i .i64 0))), pU 6 (.mv (.c (.i .i64 10)))]) .ret) .skip)) (.seq (.ops [
  mV 34 7, mV 35 9, mV 4 34, mV 5 35, pU 6 (.mv (.c (.i .i64 0)))]) .ret))))))))
def fn75 : AFn := (AFn.mk 6 [(.t 4)] (.seq (.ops [
  nU 2 (.bx 55 1 (.t 0)), nU 3 (.bx 3 1 (.t 1)), pU 4 (.mv (.c .nfn))]) (.seq (.ops [
  pU 5 (.mkfn 98 [] [(.t 2), (.t 3)]), mV 4 5]) .ret)))
def fn79 : AFn := (AFn.mk 41 [(.t 4)] (.seq (.ops [
  pU 4 (.mv (.c .nsl))]) (.seq (.ops [
  mV 9 0, pU 10 (.len false (.t 9)), nU 11 (.mk 111 1 24 [.nsl] (.t 10) (.t 10)), mV 5 11]) (.seq (.seq (.ops [
  mV 12 0, pU 13 (.len false (.t 12)), pU 14 (.mv (.c (.i .i64 0)))]) (.block 0 (.loop (.seq (.ops [
  pU 15 (.bin .lss (.t 14) (.t 13))]) (.seq (.cond (.t 15) .skip (.exit 0)) (.seq (.block 1 (.seq (.ops [
  mV 16 14, mV 6 16]) (.seq (.ops [
  mV 17 0, pU 18 (.len false (.t 17)), pU 19 (.mv (.c (.i .i64 0)))]) (.block 2 (.loop (.seq (.ops [
  pU 20 (.bin .lss (.t 19) (.t 18))]) (.seq (.cond (.t 20) .skip (.exit 2)) (.seq (.block 3 (.seq (.ops [
  pU 21 (.ixS 1 (.t 17) (.t 19)), nU 22 (.ld true 1 (.t 21)), mV 8 22]) (.flt [(
  mV 23 5, false), (
  mV 24 6, false), (
  mV 25 5, false), (
  mV 26 6, false), (
  pU 27 (.ixS 1 (.t 25) (.t 26)), false), (
  nU 28 (.ld true 1 (.t 27)), true), (
  mV 29 1, false), (
  mV 30 8, false), (
  mV 31 6, false), (
  nU 32 (.call 89 [(.t 31)]), false), (
  nU 33 (.call 88 [(.t 30), (.t 32)]), false), (
  nU 34 (.callv (.t 29) [(.t 33)]), false), (
  nU 35 (.bsl 106 1 [(.i .i64 0)] 1 [((0, 1), (.t 34))]), false), (
  nU 36 (.app 106 1 8 [(.i .i64 0)] (.t 28) (.t 35)), true), (
  pU 37 (.ixS 1 (.t 23) (.t 24)), false), (
  (.mk none none (.st 1 (.t 37) (.t 36))), true)]))) (.ops [
  pU 38 (.bin .add (.t 19) (.c (.i .i64 1))), mV 19 38]))))))))) (.ops [
  pU 39 (.bin .add (.t 14) (.c (.i .i64 1))), mV 14 39]))))))) (.seq (.ops [
  mV 40 5, mV 4 40]) .ret)))))
def fn80 : AFn := (AFn.mk 4 [(.t 2)] (.seq (.ops [
  pU 2 (.mv (.c (.i .i64 0)))]) (.seq (.ops [
  mV 3 0, mV 2 3]) .ret)))
def fn81 : AFn := (AFn.mk 25 [(.t 2)] (.seq (.ops [
  pU 2 (.mv (.c .nsl))]) (.seq (.ops [
  mV 5 0, nU 6 (.mk 111 1 24 [.nsl] (.t 5) (.t 5)), mV 3 6]) (.seq (.seq (.ops [
  mV 7 3, pU 8 (.len false (.t 7)), pU 9 (.mv (.c (.i .i64 0)))]) (.block 0 (.loop (.seq (.ops [
  pU 10 (.bin .lss (.t 9) (.t 8))]) (.seq (.cond (.t 10) .skip (.exit 0)) (.seq (.block 1 (.seq (.ops [
  mV 11 9, mV 4 11]) (.seq (.ops [
  mV 12 3, mV 13 4, mV 14 0, nU 15 (.mk 106 1 8 [(.i .i64 0)] (.t 14) (.t 14)), pU 16 (.ixS 1 (.t 12) (.t 13)), (.mk none none (.st 1 (.t 16) (.t 15)))]) (.ops [
  mV 17 3, mV 18 4, pU 19 (.ixS 1 (.t 17) (.t 18)), nU 20 (.ld true 1 (.t 19)), mV 21 4, pU 22 (.ixS 1 (.t 20) (.t 21)), (.mk none none (.st 1 (.t 22) (.c (.i .i64 1))))])))) (.ops [
  pU 23 (.bin .add (.t 9) (.c (.i .i64 1))), mV 9 23]))))))) (.seq (.ops [
  mV 24 3, mV 2 24]) .ret)))))
def fn82 : AFn := (AFn.mk 73 [(.t 4)] (.seq (.ops [
  pU 4 (.mv (.c .nsl))]) (.seq (.ops [
  mV 11 0, pU 12 (.len false (.t 11)), nU 13 (.mk 111 1 24 [.nsl] (.t 12) (.t 12)), mV 5 13]) (.seq (.seq (.ops [
  mV 14 0, pU 15 (.len false (.t 14)), pU 16 (.mv (.c (.i .i64 0)))]) (.block 0 (.loop (.seq (.ops [
  pU 17 (.bin .lss (.t 16) (.t 15))]) (.seq (.cond (.t 17) .skip (.exit 0)) (.seq (.block 1 (.seq (.ops [
  mV 18 16, pU 19 (.ixS 1 (.t 14) (.t 16)), nU 20 (.ld true 1 (.t 19)), mV 6 18, mV 7 20]) (.seq (.ops [
  mV 21 5, mV 22 6, mV 23 1, pU 24 (.ixS 1 (.t 23) (.c (.i .i64 0))), nU 25 (.ld true 1 (.t 24)), pU 26 (.len false (.t 25)), nU 27 (.mk 106 1 8 [(.i .i64 0)] (.t 26) (.t 26)), pU 28 (.ixS 1 (.t 21) (.t 22)), (.mk none none (.st 1 (.t 28) (.t 27)))]) (.seq (.ops [
  mV 29 5, mV 30 6, pU 31 (.ixS 1 (.t 29) (.t 30)), nU 32 (.ld true 1 (.t 31)), pU 33 (.len false (.t 32)), pU 34 (.mv (.c (.i .i64 0)))]) (.block 2 (.loop (.seq (.ops [
  pU 35 (.bin .lss (.t 34) (.t 33))]) (.seq (.cond (.t 35) .skip (.exit 2)) (.seq (.block 3 (.seq (.ops [
  mV 36 34, mV 8 36]) (.seq (.ops [
  mV 37 7, pU 38 (.len false (.t 37)), pU 39 (.mv (.c (.i .i64 0)))]) (.block 4 (.loop (.seq (.ops [
  pU 40 (.bin .lss (.t 39) (.t 38))]) (.seq (.cond (.t 40) .skip (.exit 4)) (.seq (.block 5 (.seq (.ops [
  mV 41 39, pU 42 (.ixS 1 (.t 37) (.t 39)), nU 43 (.ld true 1 (.t 42)), mV 9 41, mV 10 43]) (.flt [(
  mV 44 5, false), (
  mV 45 6, false), (
  pU 46 (.ixS 1 (.t 44) (.t 45)), false), (
  nU 47 (.ld true 1 (.t 46)), true), (
  mV 48 8, false), (
  mV 49 5, false), (
  mV 50 6, false), (
  pU 51 (.ixS 1 (.t 49) (.t 50)), false), (
  nU 52 (.ld true 1 (.t 51)), true), (
  mV 53 8, false), (
  pU 54 (.ixS 1 (.t 52) (.t 53)), false), (
  nU 55 (.ld true 1 (.t 54)), true), (
  pU 56 (.mki 106 (.t 55)), false), (
  mV 57 10, false), (
  pU 58 (.mki 106 (.t 57)), false), (
  mV 59 1, false), (
  mV 60 9, false), (
  pU 61 (.ixS 1 (.t 59) (.t 60)), false), (
  nU 62 (.ld true 1 (.t 61)), false), (
  mV 63 8, false), (
  pU 64 (.ixS 1 (.t 62) (.t 63)), false), (
  nU 65 (.ld true 1 (.t 64)), false), (
  nU 66 (.calli [(61, (126, [])), (106, (129, [])), (122, (131, []))] (.t 58) [(.t 65)]), false), (
  nU 67 (.calli [(61, (86, [])), (106, (128, [])), (122, (130, []))] (.t 56) [(.t 66)]), false), (
  pU 68 (.ixS 1 (.t 47) (.t 48)), false), (
  (.mk none none (.st 1 (.t 68) (.t 67))), true)]))) (.ops [
  pU 69 (.bin .add (.t 39) (.c (.i .i64 1))), mV 39 69]))))))))) (.ops [
  pU 70 (.bin .add (.t 34) (.c (.i .i64 1))), mV 34 70])))))))))) (.ops [
  pU 71 (.bin .add (.t 16) (.c (.i .i64 1))), mV 16 71]))))))) (.seq (.ops [
  mV 72 5, mV 4 72]) .ret)))))
def fn83 : AFn := (AFn.mk 21 [(.t 2)] (.seq (.ops [
  pU 2 (.mv (.c (.i .i64 0)))]) (.seq (.ops [
  pU 3 (.mv (.c (.i .i64 0)))]) (.seq (.seq (.ops [
  mV 5 0, pU 6 (.len false (.t 5)), pU 7 (.mv (.c (.i .i64 0)))]) (.block 0 (.loop (.seq (.ops [
  pU 8 (.bin .lss (.t 7) (.t 6))]) (.seq (.cond (.t 8) .skip (.exit 0)) (.seq (.block 1 (.seq (.ops [
  mV 9 7, mV 4 9]) (.ops [
  mV 10 3, mV 11 0, mV 12 4, pU 13 (.ixS 1 (.t 11) (.t 12)), nU 14 (.ld true 1 (.t 13)), mV 15 4, pU 16 (.ixS 1 (.t 14) (.t 15)), nU 17 (.ld true 1 (.t 16)), pU 18 (.bin .add (.t 10) (.t 17)), mV 3 18]))) (.ops [
  pU 19 (.bin .add (.t 7) (.c (.i .i64 1))), mV 7 19]))))))) (.seq (.ops [
  mV 20 3, mV 2 20]) .ret)))))
def fn86 : AFn := (AFn.mk 12 [(.t 4)] (.seq (.ops [
  pU 4 (.mv (.c (.i .u64 0)))]) (.seq (.seq (.ops [
  mV 5 0, mV 6 1, pU 7 (.bin .sub (.c (.i .u64 9223372036854775808)) (.t 6)), pU 8 (.bin .gtr (.t 5) (.t 7))]) (.cond (.t 8) (.seq (.ops [
  pU 4 (.mv (.c (.i .u64 9223372036854775808)))]) .ret) .skip)) (.seq (.ops [
  mV 9 0, mV 10 1, pU 11 (.bin .add (.t 9) (.t 10)), mV 4 11]) .ret))))
def fn88 : AFn := (AFn.mk 34 [(.t 4)] (.seq (.ops [
  pU 4 (.mv (.c (.i .i64 0)))]) (.seq (.seq (.ops [
  mV 7 1, pU 8 (.len true (.t 7)), pU 9 (.bin .eql (.t 8) (.c (.i .i64 0)))]) (.cond (.t 9) (.seq (.ops [
  mV 10 0, nU 11 (.call 99 [(.t 10)]), pU 12 (.bin .add (.t 11) (.c (.i .i64 1))), mV 4 12]) .ret) .skip)) (.seq (.seq (.ops [
  mV 13 1, pU 14 (.len true (.t 13)), pU 15 (.bin .eql (.t 14) (.c (.i .i64 1)))]) (.cond (.t 15) (.seq (.ops [
  mV 16 0, mV 17 1, pU 18 (.ixStr (.t 17) (.c (.i .i64 0))), nU 19 (.cnt (.t 16) (.t 18)), mV 4 19]) .ret) .skip)) (.seq (.ops [
  pU 5 (.mv (.c (.i .i64 0)))]) (.block 0 (.loop (.block 1 (.seq (.ops [
  mV 20 0, mV 21 1, nU 22 (.call 101 [(.t 20), (.t 21)]), mV 6 22]) (.seq (.seq (.ops [
  mV 23 6, (.mk (some 24) none (.pure (.bin .eql (.t 23) (.c (.i .i64 (-1))))))]) (.cond (.t 24) (.seq (.ops [
  mV 25 5, mV 4 25]) .ret) .skip)) (.seq (.ops [
  mV 26 5, pU 27 (.bin .add (.t 26) (.c (.i .i64 1))), mV 5 27]) (.ops [
  mV 28 0, mV 29 6, mV 30 1, pU 31 (.len true (.t 30)), pU 32 (.bin .add (.t 29) (.t 31)), pU 33 (.slStr (.t 28) (some (.t 32)) none), mV 0 33]))))))))))))
def fn89 : AFn := (AFn.mk 8 [(.t 2)] (.seq (.ops [
  pU 2 (.mv (.c (.s [])))]) (.seq (.ops [
  mV 3 0, pU 4 (.conv .u8 (.t 3)), pU 5 (.bin .add (.c (.i .u8 97)) (.t 4)), nU 6 (.bsl 5 1 [(.i .u8 0)] 1 [((0, 1), (.t 5))]), nU 7 (.bts (.t 6)), mV 2 7]) .ret)))
def fn90 : AFn := (AFn.mk 16 [] (.seq (.ops [
  nU 5 (.bx 118 1 (.t 0))]) (.seq (.ops [
  nU 8 (.ld true 1 (.t 1)), nU 6 (.al 61 [(.i .u64 0)]), (.mk none none (.st 1 (.t 6) (.t 8)))]) (.seq (.ops [
  nU 7 (.al 119 [.nfn])]) (.seq (.ops [
  pU 9 (.mkfn 91 [] [(.t 2), (.t 6), (.t 5), (.t 7), (.t 3)]), (.mk none none (.st 1 (.t 7) (.t 9)))]) (.opsY [
  nU 10 (.ld true 1 (.t 7)), nU 11 (.ld true 1 (.t 4)), nU 12 (.ld true 1 (.t 2)), pU 13 (.len false (.t 12)), pU 14 (.bin .sub (.t 13) (.c (.i .i64 1))), nU 15 (.callv (.t 10) [(.t 11), (.t 14)])]))))))
def fn91 : AFn := (AFn.mk 53 [(.t 9)] (.seq (.ops [
  pU 9 (.mv (.c (.b false)))]) (.seq (.seq (.ops [
  mV 13 0, pU 14 (.len true (.t 13)), pU 15 (.mv (.c (.i .i64 0)))]) (.block 0 (.loop (.seq (.ops [
  pU 16 (.bin .lss (.t 15) (.t 14))]) (.seq (.cond (.t 16) .skip (.exit 0)) (.seq (.block 1 (.seq (.ops [
  mV 17 15, mV 10 17]) (.seq (.ops [
  mV 18 0, mV 19 10, pU 20 (.ixStr (.t 18) (.t 19)), nU 21 (.call 54 [(.t 20)]), mV 11 21]) (.seq (.ops [
  nU 22 (.ld true 1 (.t 2)), mV 23 1, pU 24 (.ixS 1 (.t 22) (.t 23)), nU 25 (.ld true 1 (.t 24)), mV 26 11, pU 27 (.ixS 1 (.t 25) (.t 26)), nU 28 (.ld true 1 (.t 27)), mV 12 28]) (.seq (.ops [
  mV 29 12, nU 30 (.ld true 1 (.t 3)), pU 31 (.bin .leq (.t 29) (.t 30))]) (.cond (.t 31) (.ops [
  nU 32 (.ld true 1 (.t 3)), mV 33 12, pU 34 (.bin .sub (.t 32) (.t 33)), (.mk none none (.st 1 (.t 3) (.t 34)))]) (.seq (.ops [
  mV 35 1, pU 36 (.bin .eql (.t 35) (.c (.i .i64 0)))]) (.cond (.t 36) (.seq (.opsY [
  mV 38 0, mV 39 10, pU 40 (.ixStr (.t 38) (.t 39)), nU 37 (.ld true 1 (.t 4)), nU 41 (.callv (.t 37) [(.t 40)]), pU 42 (.not (.t 41))]) (.cond (.t 42) (.seq (.ops [
  pU 9 (.mv (.c (.b false)))]) .ret) .skip)) (.seq (.flt [(
  nU 43 (.ld true 1 (.t 5)), false), (
  nU 44 (.ld true 1 (.t 6)), false), (
  mV 45 11, false), (
  pU 46 (.ixS 1 (.t 44) (.t 45)), false), (
  nU 47 (.ld true 1 (.t 46)), false), (
  mV 48 1, false), (
  pU 49 (.bin .sub (.t 48) (.c (.i .i64 1))), false), (
  nU 50 (.callv (.t 43) [(.t 47), (.t 49)]), false), (
  pU 51 (.not (.t 50)), false)]) (.cond (.t 51) (.seq (.ops [
  pU 9 (.mv (.c (.b false)))]) .ret) .skip)))))))))) (.ops [
  pU 52 (.bin .add (.t 15) (.c (.i .i64 1))), mV 15 52]))))))) (.seq (.ops [
  pU 9 (.mv (.c (.b true)))]) .ret))))
def fn92 : AFn := (AFn.mk 25 [(.t 4)] (.seq (.ops [
  pU 4 (.mv (.c (.b false)))]) (.seq (.seq (.ops [
  mV 7 1, pU 8 (.len true (.t 7)), pU 9 (.mv (.c (.i .i64 0)))]) (.block 0 (.loop (.seq (.ops [
  pU 10 (.bin .lss (.t 9) (.t 8))]) (.seq (.cond (.t 10) .skip (.exit 0)) (.seq (.block 1 (.seq (.ops [
  mV 11 9, mV 5 11]) (.seq (.ops [
  mV 12 1, mV 13 5, pU 14 (.ixStr (.t 12) (.t 13)), nU 15 (.call 54 [(.t 14)]), mV 6 15]) (.seq (.ops [
  mV 16 6, pU 17 (.bin .lss (.t 16) (.c (.i .i64 0))), mV 18 17, (.mk (some 19) (some (18, false)) (.pure (.mv (.t 6)))), (.mk (some 20) (some (18, false)) (.pure (.mv (.t 0)))), (.mk (some 21) (some (18, false)) (.pure (.len false (.t 20)))), (.mk (some 22) (some (18, false)) (.pure (.bin .geq (.t 19) (.t 21)))), pU 23 (.pick (.t 18) (.c (.b true)) (.t 22))]) (.cond (.t 23) (.seq (.ops [
  pU 4 (.mv (.c (.b false)))]) .ret) .skip))))) (.ops [
  pU 24 (.bin .add (.t 9) (.c (.i .i64 1))), mV 9 24]))))))) (.seq (.ops [
  pU 4 (.mv (.c (.b true)))]) .ret))))
def fn93 : AFn := (AFn.mk 41 [(.t 4)] (.seq (.ops [
  pU 4 (.mv (.c .nsl))]) (.seq (.ops [
  mV 9 0, pU 10 (.len false (.t 9)), nU 11 (.mk 124 1 24 [.nsl] (.t 10) (.t 10)), mV 5 11]) (.seq (.seq (.ops [
  mV 12 0, pU 13 (.len false (.t 12)), pU 14 (.mv (.c (.i .i64 0)))]) (.block 0 (.loop (.seq (.ops [
  pU 15 (.bin .lss (.t 14) (.t 13))]) (.seq (.cond (.t 15) .skip (.exit 0)) (.seq (.block 1 (.seq (.ops [
  mV 16 14, mV 6 16]) (.seq (.ops [
  mV 17 0, pU 18 (.len false (.t 17)), pU 19 (.mv (.c (.i .i64 0)))]) (.block 2 (.loop (.seq (.ops [
  pU 20 (.bin .lss (.t 19) (.t 18))]) (.seq (.cond (.t 20) .skip (.exit 2)) (.seq (.block 3 (.seq (.ops [
  pU 21 (.ixS 1 (.t 17) (.t 19)), nU 22 (.ld true 1 (.t 21)), mV 8 22]) (.flt [(
  mV 23 5, false), (
  mV 24 6, false), (
  mV 25 5, false), (
  mV 26 6, false), (
  pU 27 (.ixS 1 (.t 25) (.t 26)), false), (
  nU 28 (.ld true 1 (.t 27)), true), (
  mV 29 1, false), (
  mV 30 8, false), (
  mV 31 6, false), (
  nU 32 (.call 89 [(.t 31)]), false), (
  nU 33 (.call 88 [(.t 30), (.t 32)]), false), (
  nU 34 (.callv (.t 29) [(.t 33)]), false), (
  nU 35 (.bsl 122 1 [(.b false)] 1 [((0, 1), (.t 34))]), false), (
  nU 36 (.app 122 1 1 [(.b false)] (.t 28) (.t 35)), true), (
  pU 37 (.ixS 1 (.t 23) (.t 24)), false), (
  (.mk none none (.st 1 (.t 37) (.t 36))), true)]))) (.ops [
  pU 38 (.bin .add (.t 19) (.c (.i .i64 1))), mV 19 38]))))))))) (.ops [
  pU 39 (.bin .add (.t 14) (.c (.i .i64 1))), mV 14 39]))))))) (.seq (.ops [
  mV 40 5, mV 4 40]) .ret)))))
def fn94 : AFn := (AFn.mk 5 [(.t 2)] (.seq (.ops [
  pU 2 (.mv (.c (.b false)))]) (.seq (.ops [
  mV 3 0, pU 4 (.bin .gtr (.t 3) (.c (.i .i64 0))), mV 2 4]) .ret)))
def fn95 : AFn := (AFn.mk 73 [(.t 4)] (.seq (.ops [
  pU 4 (.mv (.c .nsl))]) (.seq (.ops [
  mV 11 0, pU 12 (.len false (.t 11)), nU 13 (.mk 124 1 24 [.nsl] (.t 12) (.t 12)), mV 5 13]) (.seq (.seq (.ops [
  mV 14 0, pU 15 (.len false (.t 14)), pU 16 (.mv (.c (.i .i64 0)))]) (.block 0 (.loop (.seq (.ops [
  pU 17 (.bin .lss (.t 16) (.t 15))]) (.seq (.cond (.t 17) .skip (.exit 0)) (.seq (.block 1 (.seq (.ops [
  mV 18 16, pU 19 (.ixS 1 (.t 14) (.t 16)), nU 20 (.ld true 1 (.t 19)), mV 6 18, mV 7 20]) (.seq (.ops [
  mV 21 5, mV 22 6, mV 23 1, pU 24 (.ixS 1 (.t 23) (.c (.i .i64 0))), nU 25 (.ld true 1 (.t 24)), pU 26 (.len false (.t 25)), nU 27 (.mk 122 1 1 [(.b false)] (.t 26) (.t 26)), pU 28 (.ixS 1 (.t 21) (.t 22)), (.mk none none (.st 1 (.t 28) (.t 27)))]) (.seq (.ops [
  mV 29 5, mV 30 6, pU 31 (.ixS 1 (.t 29) (.t 30)), nU 32 (.ld true 1 (.t 31)), pU 33 (.len false (.t 32)), pU 34 (.mv (.c (.i .i64 0)))]) (.block 2 (.loop (.seq (.ops [
  pU 35 (.bin .lss (.t 34) (.t 33))]) (.seq (.cond (.t 35) .skip (.exit 2)) (.seq (.block 3 (.seq (.ops [
  mV 36 34, mV 8 36]) (.seq (.ops [
  mV 37 7, pU 38 (.len false (.t 37)), pU 39 (.mv (.c (.i .i64 0)))]) (.block 4 (.loop (.seq (.ops [
  pU 40 (.bin .lss (.t 39) (.t 38))]) (.seq (.cond (.t 40) .skip (.exit 4)) (.seq (.block 5 (.seq (.ops [
  mV 41 39, pU 42 (.ixS 1 (.t 37) (.t 39)), nU 43 (.ld true 1 (.t 42)), mV 9 41, mV 10 43]) (.flt [(
  mV 44 5, false), (
  mV 45 6, false), (
  pU 46 (.ixS 1 (.t 44) (.t 45)), false), (
  nU 47 (.ld true 1 (.t 46)), true), (
  mV 48 8, false), (
  mV 49 5, false), (
  mV 50 6, false), (
  pU 51 (.ixS 1 (.t 49) (.t 50)), false), (
  nU 52 (.ld true 1 (.t 51)), true), (
  mV 53 8, false), (
  pU 54 (.ixS 1 (.t 52) (.t 53)), false), (
  nU 55 (.ld true 1 (.t 54)), true), (
  pU 56 (.mki 122 (.t 55)), false), (
  mV 57 10, false), (
  pU 58 (.mki 122 (.t 57)), false), (
  mV 59 1, false), (
  mV 60 9, false), (
  pU 61 (.ixS 1 (.t 59) (.t 60)), false), (
  nU 62 (.ld true 1 (.t 61)), false), (
  mV 63 8, false), (
  pU 64 (.ixS 1 (.t 62) (.t 63)), false), (
  nU 65 (.ld true 1 (.t 64)), false), (
  nU 66 (.calli [(61, (126, [])), (106, (129, [])), (122, (131, []))] (.t 58) [(.t 65)]), false), (
  nU 67 (.calli [(61, (86, [])), (106, (128, [])), (122, (130, []))] (.t 56) [(.t 66)]), false), (
  pU 68 (.ixS 1 (.t 47) (.t 48)), false), (
  (.mk none none (.st 1 (.t 68) (.t 67))), true)]))) (.ops [
  pU 69 (.bin .add (.t 39) (.c (.i .i64 1))), mV 39 69]))))))))) (.ops [
  pU 70 (.bin .add (.t 34) (.c (.i .i64 1))), mV 34 70])))))))))) (.ops [
  pU 71 (.bin .add (.t 16) (.c (.i .i64 1))), mV 16 71]))))))) (.seq (.ops [
  mV 72 5, mV 4 72]) .ret)))))
def fn96 : AFn := (AFn.mk 36 [(.t 4)] (.seq (.ops [
  nU 2 (.bx 85 2 (.t 0)), pU 4 (.mv (.c (.b false)))]) (.seq (.ops [
  pU 5 (.mv (.c (.i .i64 0)))]) (.seq (.seq (.ops [
  pU 7 (.faddr 0 (.t 2)), nU 8 (.ld true 1 (.t 7)), mV 9 1, pU 10 (.ixS 1 (.t 8) (.t 9)), nU 11 (.ld true 1 (.t 10)), pU 12 (.len true (.t 11)), pU 13 (.mv (.c (.i .i64 0)))]) (.block 0 (.loop (.seq (.ops [
  pU 14 (.bin .lss (.t 13) (.t 12))]) (.seq (.cond (.t 14) .skip (.exit 0)) (.seq (.block 1 (.seq (.ops [
  mV 15 13, mV 6 15]) (.seq (.flt [(
  pU 16 (.faddr 1 (.t 2)), false), (
  nU 17 (.ld true 1 (.t 16)), true), (
  mV 18 1, false), (
  pU 19 (.ixS 1 (.t 17) (.t 18)), false), (
  nU 20 (.ld true 1 (.t 19)), true), (
  pU 21 (.faddr 0 (.t 2)), false), (
  nU 22 (.ld true 1 (.t 21)), false), (
  mV 23 1, false), (
  pU 24 (.ixS 1 (.t 22) (.t 23)), false), (
  nU 25 (.ld true 1 (.t 24)), false), (
  mV 26 6, false), (
  pU 27 (.ixStr (.t 25) (.t 26)), false), (
  nU 28 (.call 54 [(.t 27)]), false), (
  pU 29 (.ixS 1 (.t 20) (.t 28)), false), (
  nU 30 (.ld true 1 (.t 29)), false)]) (.cond (.t 30) (.ops [
  mV 31 5, pU 32 (.bin .add (.t 31) (.c (.i .i64 1))), mV 5 32]) .skip)))) (.ops [
  pU 33 (.bin .add (.t 13) (.c (.i .i64 1))), mV 13 33]))))))) (.seq (.ops [
  mV 34 5, pU 35 (.bin .geq (.t 34) (.c (.i .i64 2))), mV 4 35]) .ret)))))
def fn97 : AFn := (AFn.mk 11 [(.t 4), (.t 5)] (.seq (.ops [
  pU 4 (.mv (.c (.s []))), pU 5 (.mv (.c (.b false)))]) (.seq (.ops [
  mV 6 0, mV 7 1, nU 8 (.call 102 [(.t 6), (.t 7)]), pU 9 (.ext 0 (.t 8)), pU 10 (.ext 1 (.t 8)), mV 4 9, mV 5 10]) .ret)))
def fn98 : AFn := (AFn.mk 35 [] (.seq (.ops [
  nU 6 (.ld true 1 (.t 1)), nU 7 (.ld true 1 (.t 2)), pU 8 (.ixS 1 (.t 6) (.t 7)), nU 9 (.ld true 1 (.t 8)), nU 10 (.stb 5 (.t 9)), mV 4 10]) (.seq (.ops [
  pU 5 (.mv (.c (.i .i64 0)))]) (.block 0 (.loop (.seq (.seq (.ops [
  mV 11 5, pU 12 (.bin .lss (.t 11) (.c (.i .i64 100000)))]) (.cond (.t 12) .skip (.exit 0))) (.seq (.block 1 (.seq (.seq (.ops [
  mV 15 5, pU 16 (.bin .gtr (.t 15) (.c (.i .i64 0)))]) (.cond (.t 16) (.flt [(
  mV 17 4, false), (
  nU 18 (.ld true 1 (.t 1)), true), (
  mV 19 4, false), (
  mV 20 5, false), (
  pU 21 (.ixS 1 (.t 19) (.t 20)), false), (
  nU 22 (.ld true 1 (.t 21)), false), (
  nU 23 (.call 54 [(.t 22)]), false), (
  pU 24 (.ixS 1 (.t 18) (.t 23)), false), (
  nU 25 (.ld true 1 (.t 24)), false), (
  nU 26 (.app 5 1 1 [(.i .u8 0)] (.t 17) (.t 25)), true), (
  mV 4 26, false)]) .skip)) (.seq (.opsY [
  mV 27 0, mV 28 5, mV 29 4, mV 30 5, pU 31 (.ixS 1 (.t 29) (.t 30)), nU 32 (.ld true 1 (.t 31)), nU 33 (.callv (.t 27) [(.t 28), (.t 32)]), pU 34 (.not (.t 33))]) (.cond (.t 34) .ret .skip)))) (.ops [
  mV 13 5, pU 14 (.bin .add (.t 13) (.c (.i .i64 1))), mV 5 14]))))))))
def fn102 : AFn := (AFn.mk 15 [(.t 4), (.t 5)] (.seq (.ops [
  pU 4 (.mv (.c (.s []))), pU 5 (.mv (.c (.b false)))]) (.seq (.seq (.ops [
  mV 6 0, mV 7 1, nU 8 (.call 104 [(.t 6), (.t 7)]), pU 9 (.not (.t 8))]) (.cond (.t 9) (.seq (.ops [
  mV 10 0, mV 4 10, pU 5 (.mv (.c (.b false)))]) .ret) .skip)) (.seq (.ops [
  mV 11 0, mV 12 1, pU 13 (.len true (.t 12)), pU 14 (.slStr (.t 11) (some (.t 13)) none), mV 4 14, pU 5 (.mv (.c (.b true)))]) .ret))))
def fn104 : AFn := (AFn.mk 18 [(.t 4)] (.seq (.ops [
  pU 4 (.mv (.c (.b false)))]) (.seq (.ops [
  mV 5 0, pU 6 (.len true (.t 5)), mV 7 1, pU 8 (.len true (.t 7)), pU 9 (.bin .geq (.t 6) (.t 8)), mV 10 9, (.mk (some 11) (some (10, true)) (.pure (.mv (.t 0)))), (.mk (some 12) (some (10, true)) (.pure (.mv (.t 1)))), (.mk (some 13) (some (10, true)) (.pure (.len true (.t 12)))), (.mk (some 14) (some (10, true)) (.pure (.slStr (.t 11) none (some (.t 13))))), (.mk (some 15) (some (10, true)) (.pure (.mv (.t 1)))), (.mk (some 16) (some (10, true)) (.pure (.sbin .eql (.t 14) (.t 15)))), pU 17 (.pick (.t 10) (.t 16) (.c (.b false))), mV 4 17]) .ret)))
def fn126 : AFn := (AFn.mk 17 [(.t 4)] (.seq (.ops [
  pU 4 (.mv (.c (.i .u64 0)))]) (.seq (.ops [
  mV 8 0, mV 9 1, nU 10 (.call 127 [(.t 8), (.t 9)]), mV 7 10, pU 11 (.ext 0 (.t 7)), pU 12 (.ext 1 (.t 7)), mV 5 11, mV 6 12]) (.seq (.seq (.ops [
  mV 13 5, pU 14 (.bin .gtr (.t 13) (.c (.i .u64 0)))]) (.cond (.t 14) (.seq (.ops [
  pU 4 (.mv (.c (.i .u64 9223372036854775808)))]) .ret) .skip)) (.seq (.ops [
  mV 15 6, pU 16 (.mx false (.t 15) (.c (.i .u64 9223372036854775808))), mV 4 16]) .ret)))))
def fn127 : AFn := (AFn.mk 51 [(.t 4), (.t 5)] (.seq (.ops [
  pU 4 (.mv (.c (.i .u64 0))), pU 5 (.mv (.c (.i .u64 0)))]) (.seq (.ops [
  mV 14 0, pU 15 (.bin .and (.t 14) (.c (.i .u64 4294967295))), mV 6 15]) (.seq (.ops [
  mV 16 0, pU 17 (.bin .shr (.t 16) (.c (.i .u64 32))), mV 7 17]) (.seq (.ops [
  mV 18 1, pU 19 (.bin .and (.t 18) (.c (.i .u64 4294967295))), mV 8 19]) (.seq (.ops [
  mV 20 1, pU 21 (.bin .shr (.t 20) (.c (.i .u64 32))), mV 9 21]) (.seq (.ops [
  mV 22 6, mV 23 8, pU 24 (.bin .mul (.t 22) (.t 23)), mV 10 24]) (.seq (.ops [
  mV 25 7, mV 26 8, pU 27 (.bin .mul (.t 25) (.t 26)), mV 28 10, pU 29 (.bin .shr (.t 28) (.c (.i .u64 32))), pU 30 (.bin .add (.t 27) (.t 29)), mV 11 30]) (.seq (.ops [
  mV 31 11, pU 32 (.bin .and (.t 31) (.c (.i .u64 4294967295))), mV 12 32]) (.seq (.ops [
  mV 33 11, pU 34 (.bin .shr (.t 33) (.c (.i .u64 32))), mV 13 34]) (.seq (.ops [
  mV 35 12, mV 36 6, mV 37 9, pU 38 (.bin .mul (.t 36) (.t 37)), pU 39 (.bin .add (.t 35) (.t 38)), mV 12 39]) (.seq (.ops [
  mV 40 7, mV 41 9, pU 42 (.bin .mul (.t 40) (.t 41)), mV 43 13, pU 44 (.bin .add (.t 42) (.t 43)), mV 45 12, pU 46 (.bin .shr (.t 45) (.c (.i .u64 32))), pU 47 (.bin .add (.t 44) (.t 46)), mV 4 47]) (.seq (.ops [
  mV 48 0, mV 49 1, pU 50 (.bin .mul (.t 48) (.t 49)), mV 5 50]) .ret)))))))))))))
def fn128 : AFn := (AFn.mk 8 [(.t 4)] (.seq (.ops [
  pU 4 (.mv (.c (.i .i64 0)))]) (.seq (.ops [
  mV 5 0, mV 6 1, pU 7 (.bin .add (.t 5) (.t 6)), mV 4 7]) .ret)))
def fn129 : AFn := (AFn.mk 8 [(.t 4)] (.seq (.ops [
  pU 4 (.mv (.c (.i .i64 0)))]) (.seq (.ops [
  mV 5 0, mV 6 1, pU 7 (.bin .mul (.t 5) (.t 6)), mV 4 7]) .ret)))
def fn130 : AFn := (AFn.mk 9 [(.t 4)] (.seq (.ops [
  pU 4 (.mv (.c (.b false)))]) (.seq (.ops [
  mV 5 0, mV 6 5, (.mk (some 7) (some (6, false)) (.pure (.mv (.t 1)))), pU 8 (.pick (.t 6) (.c (.b true)) (.t 7)), mV 4 8]) .ret)))
def fn131 : AFn := (AFn.mk 9 [(.t 4)] (.seq (.ops [
  pU 4 (.mv (.c (.b false)))]) (.seq (.ops [
  mV 5 0, mV 6 5, (.mk (some 7) (some (6, true)) (.pure (.mv (.t 1)))), pU 8 (.pick (.t 6) (.t 7) (.c (.b false))), mV 4 8]) .ret)))
def F (f : Nat) : Option AFn := cond (Nat.blt f 71) (cond (Nat.blt f 47) (cond (Nat.blt f 26) (cond (Nat.blt f 17) (cond (Nat.blt f 15) (cond (Nat.beq f 12) (some fn12) none) (cond (Nat.blt f 16) (cond (Nat.beq f 15) (some fn15) none) (cond (Nat.beq f 16) (some fn16) none))) (cond (Nat.blt f 21) (cond (Nat.blt f 19) (cond (Nat.beq f 17) (some fn17) none) (cond (Nat.beq f 19) (some fn19) none)) (cond (Nat.blt f 23) (cond (Nat.beq f 21) (some fn21) none) (cond (Nat.beq f 23) (some fn23) none)))) (cond (Nat.blt f 40) (cond (Nat.blt f 28) (cond (Nat.beq f 26) (some fn26) none) (cond (Nat.blt f 38) (cond (Nat.beq f 28) (some fn28) none) (cond (Nat.beq f 38) (some fn38) none))) (cond (Nat.blt f 44) (cond (Nat.blt f 43) (cond (Nat.beq f 40) (some fn40) none) (cond (Nat.beq f 43) (some fn43) none)) (cond (Nat.blt f 45) (cond (Nat.beq f 44) (some fn44) none) (cond (Nat.beq f 45) (some fn45) none))))) (cond (Nat.blt f 57) (cond (Nat.blt f 50) (cond (Nat.blt f 48) (cond (Nat.beq f 47) (some fn47) none) (cond (Nat.blt f 49) (cond (Nat.beq f 48) (some fn48) none) (cond (Nat.beq f 49) (some fn49) none))) (cond (Nat.blt f 55) (cond (Nat.blt f 54) (cond (Nat.beq f 50) (some fn50) none) (cond (Nat.beq f 54) (some fn54) none)) (cond (Nat.blt f 56) (cond (Nat.beq f 55) (some fn55) none) (cond (Nat.beq f 56) (some fn56) none)))) (cond (Nat.blt f 61) (cond (Nat.blt f 59) (cond (Nat.beq f 57) (some fn57) none) (cond (Nat.blt f 60) (cond (Nat.beq f 59) (some fn59) none) (cond (Nat.beq f 60) (some fn60) none))) (cond (Nat.blt f 64) (cond (Nat.blt f 63) (cond (Nat.beq f 61) (some fn61) none) (cond (Nat.beq f 63) (some fn63) none)) (cond (Nat.blt f 65) (cond (Nat.beq f 64) (some fn64) none) (cond (Nat.beq f 65) (some fn65) none)))))) (cond (Nat.blt f 92) (cond (Nat.blt f 82) (cond (Nat.blt f 75) (cond (Nat.blt f 72) (cond (Nat.beq f 71) (some fn71) none) (cond (Nat.blt f 74) (cond (Nat.beq f 72) (some fn72) none) (cond (Nat.beq f 74) (some fn74) none))) (cond (Nat.blt f 80) (cond (Nat.blt f 79) (cond (Nat.beq f 75) (some fn75) none) (cond (Nat.beq f 79) (some fn79) none)) (cond (Nat.blt f 81) (cond (Nat.beq f 80) (some fn80) none) (cond (Nat.beq f 81) (some fn81) none)))) (cond (Nat.blt f 88) (cond (Nat.blt f 83) (cond (Nat.beq f 82) (some fn82) none) (cond (Nat.blt f 86) (cond (Nat.beq f 83) (some fn83) none) (cond (Nat.beq f 86) (some fn86) none))) (cond (Nat.blt f 90) (cond (Nat.blt f 89) (cond (Nat.beq f 88) (some fn88) none) (cond (Nat.beq f 89) (some fn89) none)) (cond (Nat.blt f 91) (cond (Nat.beq f 90) (some fn90) none) (cond (Nat.beq f 91) (some fn91) none))))) (cond (Nat.blt f 102) (cond (Nat.blt f 95) (cond (Nat.blt f 93) (cond (Nat.beq f 92) (some fn92) none) (cond (Nat.blt f 94) (cond (Nat.beq f 93) (some fn93) none) (cond (Nat.beq f 94) (some fn94) none))) (cond (Nat.blt f 97) (cond (Nat.blt f 96) (cond (Nat.beq f 95) (some fn95) none) (cond (Nat.beq f 96) (some fn96) none)) (cond (Nat.blt f 98) (cond (Nat.beq f 97) (some fn97) none) (cond (Nat.beq f 98) (some fn98) none)))) (cond (Nat.blt f 128) (cond (Nat.blt f 126) (cond (Nat.blt f 104) (cond (Nat.beq f 102) (some fn102) none) (cond (Nat.beq f 104) (some fn104) none)) (cond (Nat.blt f 127) (cond (Nat.beq f 126) (some fn126) none) (cond (Nat.beq f 127) (some fn127) none))) (cond (Nat.blt f 130) (cond (Nat.blt f 129) (cond (Nat.beq f 128) (some fn128) none) (cond (Nat.beq f 129) (some fn129) none)) (cond (Nat.blt f 131) (cond (Nat.beq f 130) (some fn130) none) (cond (Nat.beq f 131) (some fn131) none))))))
end Go.Proofs.Ytfohppnelbbepaa.T
