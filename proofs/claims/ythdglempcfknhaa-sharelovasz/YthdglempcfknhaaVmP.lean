/- The functions that the law reaches, as the small machine takes them. -/
import Derived.Test.YthdglempcfknhaaVmA
import Derived.KernelRfl
open Go.Vm
namespace Go.Proofs.Ythdglempcfknhaa.T
open Go
def fn12 : AFn := (AFn.mk 241 [(.t 12)] (.seq (.ops [
  (.mk (some 12) none (.pure (.mv (.c (.b false)))))]) (.seq (.seq (.ops [
  (.mk (some 31) none (.pure (.mv (.t 1)))), 
  (.mk (some 32) none (.pure (.mv (.t 2)))), 
  (.mk (some 33) none (.pure (.mv (.t 3)))), 
  (.mk (some 34) none (.pure (.mv (.t 4)))), 
  (.mk (some 35) none (.bsl 22 1 [.nsl] 4 [((0, 1), (.t 31)), ((1, 1), (.t 32)), ((2, 1), (.t 33)), ((3, 1), (.t 34))])), 
  (.mk (some 36) none (.call 14 [(.t 35)])), 
  (.mk (some 37) none (.pure (.not (.t 36))))]) (.cond (.t 37) (.seq (.ops [
  (.mk (some 38) none (.call 15 [])), 
  (.mk (some 12) none (.pure (.mv (.t 38))))]) .ret) .skip)) (.seq (.ops [
  (.mk (some 40) none (.pure (.mv (.t 0)))), 
  (.mk (some 41) none (.pure (.mv (.t 1)))), 
  (.mk (some 42) none (.pure (.mv (.t 2)))), 
  (.mk (some 43) none (.call 33 [(.t 40), (.t 41), (.t 42)])), 
  (.mk (some 39) none (.pure (.mv (.t 43)))), 
  (.mk (some 44) none (.pure (.ext 0 (.t 39)))), 
  (.mk (some 45) none (.pure (.ext 1 (.t 39)))), 
  (.mk (some 13) none (.pure (.mv (.t 44)))), 
  (.mk (some 14) none (.pure (.mv (.t 45))))]) (.seq (.ops [
  (.mk (some 47) none (.pure (.mv (.t 0)))), 
  (.mk (some 48) none (.pure (.mv (.t 1)))), 
  (.mk (some 49) none (.pure (.mv (.t 2)))), 
  (.mk (some 50) none (.call 35 [(.t 47), (.t 48), (.t 49)])), 
  (.mk (some 46) none (.pure (.mv (.t 50)))), 
  (.mk (some 51) none (.pure (.ext 0 (.t 46)))), 
  (.mk (some 52) none (.pure (.ext 1 (.t 46)))), 
  (.mk (some 53) none (.pure (.ext 2 (.t 46)))), 
  (.mk (some 15) none (.pure (.mv (.t 51)))), 
  (.mk (some 16) none (.pure (.mv (.t 52)))), 
  (.mk (some 17) none (.pure (.mv (.t 53))))]) (.seq (.seq (.ops [
  (.mk (some 54) none (.pure (.mv (.t 0)))), 
  (.mk (some 55) none (.pure (.mv (.t 1)))), 
  (.mk (some 56) none (.call 39 [(.t 54), (.t 55)])), 
  (.mk (some 57) none (.pure (.not (.t 56)))), 
  (.mk (some 58) none (.pure (.mv (.t 57)))), 
  (.mk (some 59) (some (58, false)) (.pure (.mv (.t 0)))), 
  (.mk (some 60) (some (58, false)) (.pure (.mv (.t 2)))), 
  (.mk (some 61) (some (58, false)) (.call 43 [(.t 59), (.t 60)])), 
  (.mk (some 62) (some (58, false)) (.pure (.not (.t 61)))), 
  (.mk (some 63) none (.pure (.pick (.t 58) (.c (.b true)) (.t 62))))]) (.cond (.t 63) (.seq (.ops [
  (.mk (some 64) none (.pure (.mv (.t 17)))), 
  (.mk (some 65) none (.pure (.bin .neq (.t 64) (.c (.i .i64 0))))), 
  (.mk (some 66) none (.pure (.mv (.t 65)))), 
  (.mk (some 67) (some (66, true)) (.pure (.mv (.t 15)))), 
  (.mk (some 68) (some (66, true)) (.pure (.len false (.t 67)))), 
  (.mk (some 69) (some (66, true)) (.pure (.mv (.t 16)))), 
  (.mk (some 70) (some (66, true)) (.pure (.bin .add (.t 68) (.t 69)))), 
  (.mk (some 71) (some (66, true)) (.pure (.bin .eql (.t 70) (.c (.i .i64 0))))), 
  (.mk (some 72) none (.pure (.pick (.t 66) (.t 71) (.c (.b false))))), 
  (.mk (some 73) none (.pure (.mv (.t 72)))), 
  (.mk (some 74) (some (73, true)) (.call 15 [])), 
  (.mk (some 75) none (.pure (.pick (.t 73) (.t 74) (.c (.b false))))), 
  (.mk (some 12) none (.pure (.mv (.t 75))))]) .ret) .skip)) (.seq (.ops [
  (.mk (some 77) none (.pure (.mv (.t 0)))), 
  (.mk (some 78) none (.pure (.mv (.t 1)))), 
  (.mk (some 79) none (.pure (.mv (.t 15)))), 
  (.mk (some 80) none (.call 25 [(.t 77), (.t 78), (.t 79)])), 
  (.mk (some 76) none (.pure (.mv (.t 80)))), 
  (.mk (some 81) none (.pure (.ext 0 (.t 76)))), 
  (.mk (some 82) none (.pure (.ext 1 (.t 76)))), 
  (.mk (some 83) none (.pure (.ext 2 (.t 76)))), 
  (.mk (some 18) none (.pure (.mv (.t 81)))), 
  (.mk (some 19) none (.pure (.mv (.t 82)))), 
  (.mk (some 20) none (.pure (.mv (.t 83))))]) (.seq (.seq (.ops [
  (.mk (some 84) none (.pure (.mv (.t 14)))), 
  (.mk (some 85) none (.pure (.bin .neq (.t 84) (.c (.i .i64 0))))), 
  (.mk (some 86) none (.pure (.mv (.t 85)))), 
  (.mk (some 87) (some (86, false)) (.pure (.mv (.t 17)))), 
  (.mk (some 88) (some (86, false)) (.pure (.bin .neq (.t 87) (.c (.i .i64 0))))), 
  (.mk (some 89) none (.pure (.pick (.t 86) (.c (.b true)) (.t 88)))), 
  (.mk (some 90) none (.pure (.mv (.t 89)))), 
  (.mk (some 91) (some (90, false)) (.pure (.mv (.t 20)))), 
  (.mk (some 92) (some (90, false)) (.pure (.bin .neq (.t 91) (.c (.i .i64 0))))), 
  (.mk (some 93) none (.pure (.pick (.t 90) (.c (.b true)) (.t 92)))), 
  (.mk (some 94) none (.pure (.mv (.t 93)))), 
  (.mk (some 95) (some (94, false)) (.pure (.mv (.t 13)))), 
  (.mk (some 96) (some (94, false)) (.pure (.mv (.t 16)))), 
  (.mk (some 97) (some (94, false)) (.pure (.bin .neq (.t 95) (.t 96)))), 
  (.mk (some 98) none (.pure (.pick (.t 94) (.c (.b true)) (.t 97)))), 
  (.mk (some 99) none (.pure (.mv (.t 98)))), 
  (.mk (some 100) (some (99, false)) (.pure (.mv (.t 19)))), 
  (.mk (some 101) (some (99, false)) (.pure (.not (.t 100)))), 
  (.mk (some 102) none (.pure (.pick (.t 99) (.c (.b true)) (.t 101))))]) (.cond (.t 102) (.seq (.ops [
  (.mk (some 12) none (.pure (.mv (.c (.b false)))))]) .ret) .skip)) (.seq (.ops [
  (.mk (some 103) none (.pure (.mv (.t 5)))), 
  (.mk (some 104) none (.pure (.conv .i64 (.t 103)))), 
  (.mk (some 105) none (.pure (.mv (.t 1)))), 
  (.mk (some 106) none (.pure (.len false (.t 105)))), 
  (.mk (some 107) none (.pure (.bin .rem (.t 104) (.t 106)))), 
  (.mk (some 21) none (.pure (.mv (.t 107))))]) (.seq (.ops [
  (.mk (some 22) none (.pure (.mv (.c .nsl)))), 
  (.mk (some 23) none (.pure (.mv (.c .nsl))))]) (.seq (.seq (.ops [
  (.mk (some 24) none (.pure (.mv (.c (.i .i64 0)))))]) (.block 0 (.loop (.seq (.seq (.ops [
  (.mk (some 108) none (.pure (.mv (.t 24)))), 
  (.mk (some 109) none (.pure (.mv (.t 0)))), 
  (.mk (some 110) none (.pure (.bin .lss (.t 108) (.t 109))))]) (.cond (.t 110) .skip (.exit 0))) (.seq (.block 1 (.ops [
  (.mk (some 113) none (.pure (.mv (.t 22)))), 
  (.mk (some 114) none (.pure (.mv (.t 21)))), 
  (.mk (some 115) none (.pure (.mv (.t 24)))), 
  (.mk (some 116) none (.pure (.bin .shr (.t 114) (.t 115)))), 
  (.mk (some 117) none (.pure (.bin .rem (.t 116) (.c (.i .i64 2))))), 
  (.mk (some 118) none (.bsl 3 1 [(.i .i64 0)] 1 [((0, 1), (.t 117))])), 
  (.mk (some 119) none (.app 3 1 8 [(.i .i64 0)] (.t 113) (.t 118))), 
  (.mk (some 22) none (.pure (.mv (.t 119))))])) (.ops [
  (.mk (some 111) none (.pure (.mv (.t 24)))), 
  (.mk (some 112) none (.pure (.bin .add (.t 111) (.c (.i .i64 1))))), 
  (.mk (some 24) none (.pure (.mv (.t 112))))])))))) (.seq (.ops [
  (.mk (some 121) none (.pure (.mv (.t 0)))), 
  (.mk (some 122) none (.pure (.mv (.t 1)))), 
  (.mk (some 123) none (.pure (.mv (.t 22)))), 
  (.mk (some 124) none (.call 33 [(.t 121), (.t 122), (.t 123)])), 
  (.mk (some 120) none (.pure (.mv (.t 124)))), 
  (.mk (some 125) none (.pure (.ext 0 (.t 120)))), 
  (.mk (some 126) none (.pure (.ext 1 (.t 120)))), 
  (.mk (some 25) none (.pure (.mv (.t 125)))), 
  (.mk (some 14) none (.pure (.mv (.t 126))))]) (.seq (.seq (.ops [
  (.mk (some 127) none (.pure (.mv (.t 14)))), 
  (.mk (some 128) none (.pure (.bin .neq (.t 127) (.c (.i .i64 0))))), 
  (.mk (some 129) none (.pure (.mv (.t 128)))), 
  (.mk (some 130) (some (129, false)) (.pure (.mv (.t 25)))), 
  (.mk (some 131) (some (129, false)) (.pure (.mv (.t 1)))), 
  (.mk (some 132) (some (129, false)) (.pure (.mv (.t 21)))), 
  (.mk (some 133) (some (129, false)) (.pure (.ixS 1 (.t 131) (.t 132)))), 
  (.mk (some 134) (some (129, false)) (.ld true 1 (.t 133))), 
  (.mk (some 135) (some (129, false)) (.pure (.bin .neq (.t 130) (.t 134)))), 
  (.mk (some 136) none (.pure (.pick (.t 129) (.c (.b true)) (.t 135))))]) (.cond (.t 136) (.seq (.ops [
  (.mk (some 12) none (.pure (.mv (.c (.b false)))))]) .ret) .skip)) (.seq (.ops [
  (.mk (some 138) none (.pure (.mv (.t 0)))), 
  (.mk (some 139) none (.pure (.mv (.t 1)))), 
  (.mk (some 140) none (.pure (.mv (.t 4)))), 
  (.mk (some 141) none (.call 25 [(.t 138), (.t 139), (.t 140)])), 
  (.mk (some 137) none (.pure (.mv (.t 141)))), 
  (.mk (some 142) none (.pure (.ext 0 (.t 137)))), 
  (.mk (some 143) none (.pure (.ext 1 (.t 137)))), 
  (.mk (some 144) none (.pure (.ext 2 (.t 137)))), 
  (.mk (some 19) none (.pure (.mv (.t 143)))), 
  (.mk (some 20) none (.pure (.mv (.t 144))))]) (.seq (.seq (.ops [
  (.mk (some 145) none (.pure (.mv (.t 20)))), 
  (.mk (some 146) none (.pure (.bin .eql (.t 145) (.c (.i .i64 0))))), 
  (.mk (some 147) none (.pure (.mv (.t 146)))), 
  (.mk (some 148) (some (147, true)) (.pure (.mv (.t 19)))), 
  (.mk (some 149) none (.pure (.pick (.t 147) (.t 148) (.c (.b false)))))]) (.cond (.t 149) (.seq (.ops [
  (.mk (some 26) none (.pure (.mv (.c (.i .i64 0)))))]) (.seq (.seq (.ops [
  (.mk (some 27) none (.pure (.mv (.c (.i .i64 0)))))]) (.block 2 (.loop (.seq (.seq (.ops [
  (.mk (some 150) none (.pure (.mv (.t 27)))), 
  (.mk (some 151) none (.pure (.mv (.t 0)))), 
  (.mk (some 152) none (.pure (.bin .lss (.t 150) (.t 151)))), 
  (.mk (some 153) none (.pure (.mv (.t 152)))), 
  (.mk (some 154) (some (153, true)) (.pure (.mv (.t 27)))), 
  (.mk (some 155) (some (153, true)) (.pure (.mv (.t 4)))), 
  (.mk (some 156) (some (153, true)) (.pure (.len false (.t 155)))), 
  (.mk (some 157) (some (153, true)) (.pure (.bin .lss (.t 154) (.t 156)))), 
  (.mk (some 158) none (.pure (.pick (.t 153) (.t 157) (.c (.b false)))))]) (.cond (.t 158) .skip (.exit 2))) (.seq (.block 3 (.any [(
  (.mk (some 161) none (.pure (.mv (.t 26)))), false), (
  (.mk (some 162) none (.pure (.mv (.t 2)))), false), (
  (.mk (some 163) none (.pure (.mv (.t 27)))), false), (
  (.mk (some 164) none (.pure (.ixS 1 (.t 162) (.t 163)))), false), (
  (.mk (some 165) none (.ld true 1 (.t 164))), false), (
  (.mk (some 166) none (.pure (.mv (.t 4)))), false), (
  (.mk (some 167) none (.pure (.mv (.t 27)))), false), (
  (.mk (some 168) none (.pure (.ixS 1 (.t 166) (.t 167)))), false), (
  (.mk (some 169) none (.ld true 1 (.t 168))), false), (
  (.mk (some 170) none (.pure (.bin .mul (.t 165) (.t 169)))), false), (
  (.mk (some 171) none (.pure (.bin .add (.t 161) (.t 170)))), false), (
  (.mk (some 26) none (.pure (.mv (.t 171)))), false)])) (.ops [
  (.mk (some 159) none (.pure (.mv (.t 27)))), 
  (.mk (some 160) none (.pure (.bin .add (.t 159) (.c (.i .i64 1))))), 
  (.mk (some 27) none (.pure (.mv (.t 160))))])))))) (.seq (.ops [
  (.mk (some 172) none (.pure (.mv (.t 26)))), 
  (.mk (some 173) none (.pure (.mv (.t 16)))), 
  (.mk (some 174) none (.pure (.bin .gtr (.t 172) (.t 173)))), 
  (.mk (some 175) none (.pure (.mv (.t 174)))), 
  (.mk (some 176) (some (175, false)) (.pure (.mv (.t 26)))), 
  (.mk (some 177) (some (175, false)) (.pure (.mv (.t 16)))), 
  (.mk (some 178) (some (175, false)) (.pure (.bin .eql (.t 176) (.t 177)))), 
  (.mk (some 179) (some (175, false)) (.pure (.mv (.t 178)))), 
  (.mk (some 180) (some (179, true)) (.pure (.mv (.t 4)))), 
  (.mk (some 181) (some (179, true)) (.pure (.mv (.t 15)))), 
  (.mk (some 182) (some (179, true)) (.call 42 [(.t 180), (.t 181)])), 
  (.mk (some 183) (some (175, false)) (.pure (.pick (.t 179) (.t 182) (.c (.b false))))), 
  (.mk (some 184) none (.pure (.pick (.t 175) (.c (.b true)) (.t 183))))]) (.cond (.t 184) (.seq (.ops [
  (.mk (some 12) none (.pure (.mv (.c (.b false)))))]) .ret) .skip)))) .skip)) (.seq (.ops [
  (.mk (some 186) none (.pure (.mv (.t 0)))), 
  (.mk (some 187) none (.pure (.mv (.t 1)))), 
  (.mk (some 188) none (.pure (.mv (.t 3)))), 
  (.mk (some 189) none (.call 33 [(.t 186), (.t 187), (.t 188)])), 
  (.mk (some 185) none (.pure (.mv (.t 189)))), 
  (.mk (some 190) none (.pure (.ext 0 (.t 185)))), 
  (.mk (some 191) none (.pure (.ext 1 (.t 185)))), 
  (.mk (some 28) none (.pure (.mv (.t 190)))), 
  (.mk (some 14) none (.pure (.mv (.t 191))))]) (.seq (.seq (.ops [
  (.mk (some 192) none (.pure (.mv (.t 14)))), 
  (.mk (some 193) none (.pure (.bin .neq (.t 192) (.c (.i .i64 0))))), 
  (.mk (some 194) none (.pure (.mv (.t 193)))), 
  (.mk (some 195) (some (194, false)) (.pure (.mv (.t 0)))), 
  (.mk (some 196) (some (194, false)) (.pure (.mv (.t 3)))), 
  (.mk (some 197) (some (194, false)) (.call 43 [(.t 195), (.t 196)])), 
  (.mk (some 198) (some (194, false)) (.pure (.not (.t 197)))), 
  (.mk (some 199) none (.pure (.pick (.t 194) (.c (.b true)) (.t 198))))]) (.cond (.t 199) (.seq (.ops [
  (.mk (some 200) none (.pure (.mv (.t 14)))), 
  (.mk (some 201) none (.pure (.bin .neq (.t 200) (.c (.i .i64 0))))), 
  (.mk (some 202) none (.pure (.mv (.t 201)))), 
  (.mk (some 203) (some (202, true)) (.call 15 [])), 
  (.mk (some 204) none (.pure (.pick (.t 202) (.t 203) (.c (.b false))))), 
  (.mk (some 12) none (.pure (.mv (.t 204))))]) .ret) .skip)) (.seq (.seq (.ops [
  (.mk (some 29) none (.pure (.mv (.c (.i .i64 0)))))]) (.block 4 (.loop (.seq (.seq (.ops [
  (.mk (some 205) none (.pure (.mv (.t 29)))), 
  (.mk (some 206) none (.pure (.mv (.t 0)))), 
  (.mk (some 207) none (.pure (.bin .lss (.t 205) (.t 206))))]) (.cond (.t 207) .skip (.exit 4))) (.seq (.block 5 (.seq (.ops [
  (.mk (some 210) none (.pure (.mv (.t 23)))), 
  (.mk (some 211) none (.pure (.mv (.t 2)))), 
  (.mk (some 212) none (.pure (.mv (.t 29)))), 
  (.mk (some 213) none (.pure (.ixS 1 (.t 211) (.t 212)))), 
  (.mk (some 215) none (.pure (.mv (.t 3)))), 
  (.mk (some 216) none (.pure (.mv (.t 29)))), 
  (.mk (some 217) none (.pure (.ixS 1 (.t 215) (.t 216))))]) (.seq (.any [(
  (.mk (some 214) none (.ld true 1 (.t 213))), false), (
  (.mk (some 218) none (.ld true 1 (.t 217))), false)]) (.ops [
  (.mk (some 219) none (.pure (.bin .add (.t 214) (.t 218)))), 
  (.mk (some 220) none (.bsl 3 1 [(.i .i64 0)] 1 [((0, 1), (.t 219))])), 
  (.mk (some 221) none (.app 3 1 8 [(.i .i64 0)] (.t 210) (.t 220))), 
  (.mk (some 23) none (.pure (.mv (.t 221))))])))) (.ops [
  (.mk (some 208) none (.pure (.mv (.t 29)))), 
  (.mk (some 209) none (.pure (.bin .add (.t 208) (.c (.i .i64 1))))), 
  (.mk (some 29) none (.pure (.mv (.t 209))))])))))) (.seq (.ops [
  (.mk (some 223) none (.pure (.mv (.t 0)))), 
  (.mk (some 224) none (.pure (.mv (.t 1)))), 
  (.mk (some 225) none (.pure (.mv (.t 23)))), 
  (.mk (some 226) none (.call 33 [(.t 223), (.t 224), (.t 225)])), 
  (.mk (some 222) none (.pure (.mv (.t 226)))), 
  (.mk (some 227) none (.pure (.ext 0 (.t 222)))), 
  (.mk (some 228) none (.pure (.ext 1 (.t 222)))), 
  (.mk (some 30) none (.pure (.mv (.t 227)))), 
  (.mk (some 14) none (.pure (.mv (.t 228))))]) (.seq (.ops [
  (.mk (some 229) none (.pure (.mv (.t 14)))), 
  (.mk (some 230) none (.pure (.bin .neq (.t 229) (.c (.i .i64 0))))), 
  (.mk (some 231) none (.pure (.mv (.t 230)))), 
  (.mk (some 232) (some (231, false)) (.pure (.mv (.t 30)))), 
  (.mk (some 233) (some (231, false)) (.pure (.mv (.t 13)))), 
  (.mk (some 234) (some (231, false)) (.pure (.mv (.t 28)))), 
  (.mk (some 235) (some (231, false)) (.pure (.bin .add (.t 233) (.t 234)))), 
  (.mk (some 236) (some (231, false)) (.pure (.bin .leq (.t 232) (.t 235)))), 
  (.mk (some 237) none (.pure (.pick (.t 231) (.c (.b true)) (.t 236)))), 
  (.mk (some 238) none (.pure (.mv (.t 237)))), 
  (.mk (some 239) (some (238, true)) (.call 15 [])), 
  (.mk (some 240) none (.pure (.pick (.t 238) (.t 239) (.c (.b false))))), 
  (.mk (some 12) none (.pure (.mv (.t 240))))]) .ret))))))))))))))))))))
def fn14 : AFn := (AFn.mk 16 [(.t 2)] (.seq (.ops [
  (.mk (some 2) none (.pure (.mv (.c (.b false)))))]) (.seq (.seq (.ops [
  (.mk (some 3) none (.pure (.mv (.c (.i .i64 0)))))]) (.block 0 (.loop (.seq (.seq (.ops [
  (.mk (some 4) none (.pure (.mv (.t 3)))), 
  (.mk (some 5) none (.pure (.mv (.t 0)))), 
  (.mk (some 6) none (.pure (.len false (.t 5)))), 
  (.mk (some 7) none (.pure (.bin .lss (.t 4) (.t 6))))]) (.cond (.t 7) .skip (.exit 0))) (.seq (.block 1 (.seq (.ops [
  (.mk (some 10) none (.pure (.mv (.t 0)))), 
  (.mk (some 11) none (.pure (.mv (.t 3)))), 
  (.mk (some 12) none (.pure (.ixS 1 (.t 10) (.t 11)))), 
  (.mk (some 13) none (.ld true 1 (.t 12))), 
  (.mk (some 14) none (.pure (.len false (.t 13)))), 
  (.mk (some 15) none (.pure (.bin .gtr (.t 14) (.c (.i .i64 100)))))]) (.cond (.t 15) (.seq (.ops [
  (.mk (some 2) none (.pure (.mv (.c (.b false)))))]) .ret) .skip))) (.ops [
  (.mk (some 8) none (.pure (.mv (.t 3)))), 
  (.mk (some 9) none (.pure (.bin .add (.t 8) (.c (.i .i64 1))))), 
  (.mk (some 3) none (.pure (.mv (.t 9))))])))))) (.seq (.ops [
  (.mk (some 2) none (.pure (.mv (.c (.b true)))))]) .ret))))
def fn15 : AFn := (AFn.mk 75 [(.t 0)] (.seq (.ops [
  (.mk (some 0) none (.pure (.mv (.c (.b false)))))]) (.seq (.ops [
  (.mk (some 12) none (.bsl 3 1 [(.i .i64 0)] 4 [((0, 1), (.c (.i .i64 0))), ((1, 1), (.c (.i .i64 3))), ((2, 1), (.c (.i .i64 4))), ((3, 1), (.c (.i .i64 5)))])), 
  (.mk (some 13) none (.bsl 3 1 [(.i .i64 0)] 2 [((0, 1), (.c (.i .i64 1))), ((1, 1), (.c (.i .i64 0)))])), 
  (.mk (some 14) none (.call 21 [(.c (.i .i64 2)), (.t 12), (.t 13)])), 
  (.mk (some 11) none (.pure (.mv (.t 14)))), 
  (.mk (some 15) none (.pure (.ext 0 (.t 11)))), 
  (.mk (some 16) none (.pure (.ext 1 (.t 11)))), 
  (.mk (some 1) none (.pure (.mv (.t 15)))), 
  (.mk (some 2) none (.pure (.mv (.t 16))))]) (.seq (.ops [
  (.mk (some 18) none (.bsl 3 1 [(.i .i64 0)] 4 [((0, 1), (.c (.i .i64 0))), ((1, 1), (.c (.i .i64 (-2)))), ((2, 1), (.c (.i .i64 1))), ((3, 1), (.c (.i .i64 (-3))))])), 
  (.mk (some 19) none (.call 29 [(.c (.i .i64 2)), (.t 18)])), 
  (.mk (some 17) none (.pure (.mv (.t 19)))), 
  (.mk (some 20) none (.pure (.ext 0 (.t 17)))), 
  (.mk (some 21) none (.pure (.ext 1 (.t 17)))), 
  (.mk (some 22) none (.pure (.ext 2 (.t 17)))), 
  (.mk (some 23) none (.pure (.ext 3 (.t 17)))), 
  (.mk (some 3) none (.pure (.mv (.t 20)))), 
  (.mk (some 4) none (.pure (.mv (.t 21)))), 
  (.mk (some 5) none (.pure (.mv (.t 22)))), 
  (.mk (some 6) none (.pure (.mv (.t 23))))]) (.seq (.ops [
  (.mk (some 25) none (.bsl 3 1 [(.i .i64 0)] 4 [((0, 1), (.c (.i .i64 0))), ((1, 1), (.c (.i .i64 (-2)))), ((2, 1), (.c (.i .i64 1))), ((3, 1), (.c (.i .i64 (-3))))])), 
  (.mk (some 26) none (.call 31 [(.c (.i .i64 2)), (.t 25)])), 
  (.mk (some 24) none (.pure (.mv (.t 26)))), 
  (.mk (some 27) none (.pure (.ext 0 (.t 24)))), 
  (.mk (some 28) none (.pure (.ext 1 (.t 24)))), 
  (.mk (some 7) none (.pure (.mv (.t 27)))), 
  (.mk (some 8) none (.pure (.mv (.t 28))))]) (.seq (.ops [
  (.mk (some 30) none (.bsl 3 1 [(.i .i64 0)] 4 [((0, 1), (.c (.i .i64 0))), ((1, 1), (.c (.i .i64 3))), ((2, 1), (.c (.i .i64 4))), ((3, 1), (.c (.i .i64 5)))])), 
  (.mk (some 31) none (.bsl 3 1 [(.i .i64 0)] 2 [((0, 1), (.c (.i .i64 2))), ((1, 1), (.c (.i .i64 1)))])), 
  (.mk (some 32) none (.call 33 [(.c (.i .i64 2)), (.t 30), (.t 31)])), 
  (.mk (some 29) none (.pure (.mv (.t 32)))), 
  (.mk (some 33) none (.pure (.ext 0 (.t 29)))), 
  (.mk (some 34) none (.pure (.ext 1 (.t 29)))), 
  (.mk (some 9) none (.pure (.mv (.t 33)))), 
  (.mk (some 10) none (.pure (.mv (.t 34))))]) (.seq (.ops [
  (.mk (some 35) none (.pure (.mv (.t 2)))), 
  (.mk (some 36) none (.pure (.bin .eql (.t 35) (.c (.i .i64 0))))), 
  (.mk (some 37) none (.pure (.mv (.t 36)))), 
  (.mk (some 38) (some (37, true)) (.pure (.mv (.t 1)))), 
  (.mk (some 39) (some (37, true)) (.bsl 3 1 [(.i .i64 0)] 2 [((0, 1), (.c (.i .i64 1))), ((1, 1), (.c (.i .i64 4)))])), 
  (.mk (some 40) (some (37, true)) (.call 20 [(.t 38), (.t 39)])), 
  (.mk (some 41) none (.pure (.pick (.t 37) (.t 40) (.c (.b false))))), 
  (.mk (some 42) none (.pure (.mv (.t 41)))), 
  (.mk (some 43) (some (42, true)) (.pure (.mv (.t 6)))), 
  (.mk (some 44) (some (42, true)) (.pure (.bin .eql (.t 43) (.c (.i .i64 0))))), 
  (.mk (some 45) none (.pure (.pick (.t 42) (.t 44) (.c (.b false))))), 
  (.mk (some 46) none (.pure (.mv (.t 45)))), 
  (.mk (some 47) (some (46, true)) (.pure (.mv (.t 3)))), 
  (.mk (some 48) (some (46, true)) (.pure (.bin .eql (.t 47) (.c (.i .i64 (-3)))))), 
  (.mk (some 49) none (.pure (.pick (.t 46) (.t 48) (.c (.b false))))), 
  (.mk (some 50) none (.pure (.mv (.t 49)))), 
  (.mk (some 51) (some (50, true)) (.pure (.mv (.t 4)))), 
  (.mk (some 52) (some (50, true)) (.pure (.bin .eql (.t 51) (.c (.i .i64 3))))), 
  (.mk (some 53) none (.pure (.pick (.t 50) (.t 52) (.c (.b false))))), 
  (.mk (some 54) none (.pure (.mv (.t 53)))), 
  (.mk (some 55) (some (54, true)) (.pure (.mv (.t 5)))), 
  (.mk (some 56) (some (54, true)) (.pure (.bin .eql (.t 55) (.c (.i .i64 3))))), 
  (.mk (some 57) none (.pure (.pick (.t 54) (.t 56) (.c (.b false))))), 
  (.mk (some 58) none (.pure (.mv (.t 57)))), 
  (.mk (some 59) (some (58, true)) (.pure (.mv (.t 8)))), 
  (.mk (some 60) (some (58, true)) (.pure (.bin .eql (.t 59) (.c (.i .i64 0))))), 
  (.mk (some 61) none (.pure (.pick (.t 58) (.t 60) (.c (.b false))))), 
  (.mk (some 62) none (.pure (.mv (.t 61)))), 
  (.mk (some 63) (some (62, true)) (.pure (.mv (.t 7)))), 
  (.mk (some 64) (some (62, true)) (.bsl 3 1 [(.i .i64 0)] 2 [((0, 1), (.c (.i .i64 (-3)))), ((1, 1), (.c (.i .i64 0)))])), 
  (.mk (some 65) (some (62, true)) (.call 20 [(.t 63), (.t 64)])), 
  (.mk (some 66) none (.pure (.pick (.t 62) (.t 65) (.c (.b false))))), 
  (.mk (some 67) none (.pure (.mv (.t 66)))), 
  (.mk (some 68) (some (67, true)) (.pure (.mv (.t 10)))), 
  (.mk (some 69) (some (67, true)) (.pure (.bin .eql (.t 68) (.c (.i .i64 0))))), 
  (.mk (some 70) none (.pure (.pick (.t 67) (.t 69) (.c (.b false))))), 
  (.mk (some 71) none (.pure (.mv (.t 70)))), 
  (.mk (some 72) (some (71, true)) (.pure (.mv (.t 9)))), 
  (.mk (some 73) (some (71, true)) (.pure (.bin .eql (.t 72) (.c (.i .i64 8))))), 
  (.mk (some 74) none (.pure (.pick (.t 71) (.t 73) (.c (.b false))))), 
  (.mk (some 0) none (.pure (.mv (.t 74))))]) .ret)))))))
def fn16 : AFn := (AFn.mk 37 [(.t 4), (.t 5), (.t 6)] (.seq (.ops [
  (.mk (some 4) none (.pure (.mv (.c (.i .i64 0))))), 
  (.mk (some 5) none (.pure (.mv (.c (.i .i64 0))))), 
  (.mk (some 6) none (.pure (.mv (.c (.i .i64 0)))))]) (.seq (.seq (.ops [
  (.mk (some 10) none (.pure (.mv (.t 0)))), 
  (.mk (some 11) none (.pure (.mv (.t 1)))), 
  (.mk (some 12) none (.call 44 [(.t 10), (.t 11)])), 
  (.mk (some 13) none (.pure (.not (.t 12))))]) (.cond (.t 13) (.seq (.ops [
  (.mk (some 4) none (.pure (.mv (.c (.i .i64 0))))), 
  (.mk (some 5) none (.pure (.mv (.c (.i .i64 0))))), 
  (.mk (some 6) none (.pure (.mv (.c (.i .i64 2)))))]) .ret) .skip)) (.seq (.seq (.ops [
  (.mk (some 14) none (.pure (.mv (.t 0)))), 
  (.mk (some 15) none (.call 45 [(.t 14), (.c .nsl)])), 
  (.mk (some 16) none (.pure (.len false (.t 15)))), 
  (.mk (some 17) none (.pure (.mv (.c (.i .i64 0)))))]) (.block 0 (.loop (.seq (.ops [
  (.mk (some 18) none (.pure (.bin .lss (.t 17) (.t 16))))]) (.seq (.cond (.t 18) .skip (.exit 0)) (.seq (.block 1 (.seq (.ops [
  (.mk (some 19) none (.pure (.ixS 1 (.t 15) (.t 17)))), 
  (.mk (some 20) none (.ld true 1 (.t 19))), 
  (.mk (some 8) none (.pure (.mv (.t 20))))]) (.seq (.ops [
  (.mk (some 21) none (.pure (.mv (.t 0)))), 
  (.mk (some 22) none (.pure (.mv (.t 8)))), 
  (.mk (some 23) none (.call 46 [(.t 22)])), 
  (.mk (some 24) none (.pure (.mv (.t 1)))), 
  (.mk (some 25) none (.pure (.mv (.t 8)))), 
  (.mk (some 26) none (.call 47 [(.t 24), (.t 25)])), 
  (.mk (some 27) none (.bsl 53 1 [.nfn] 2 [((0, 1), (.t 23)), ((1, 1), (.t 26))])), 
  (.mk (some 28) none (.call 45 [(.t 21), (.t 27)])), 
  (.mk (some 9) none (.pure (.mv (.t 28))))]) (.seq (.ops [
  (.mk (some 29) none (.pure (.mv (.t 9)))), 
  (.mk (some 30) none (.pure (.len false (.t 29)))), 
  (.mk (some 31) none (.pure (.bin .gtr (.t 30) (.c (.i .i64 0)))))]) (.cond (.t 31) (.seq (.ops [
  (.mk (some 32) none (.pure (.mv (.t 8)))), 
  (.mk (some 33) none (.pure (.mv (.t 9)))), 
  (.mk (some 34) none (.pure (.ixS 1 (.t 33) (.c (.i .i64 0))))), 
  (.mk (some 4) none (.pure (.mv (.t 32)))), 
  (.mk (some 35) none (.ld true 1 (.t 34))), 
  (.mk (some 5) none (.pure (.mv (.t 35)))), 
  (.mk (some 6) none (.pure (.mv (.c (.i .i64 0)))))]) .ret) .skip))))) (.ops [
  (.mk (some 36) none (.pure (.bin .add (.t 17) (.c (.i .i64 1))))), 
  (.mk (some 17) none (.pure (.mv (.t 36))))]))))))) (.seq (.ops [
  (.mk (some 4) none (.pure (.mv (.c (.i .i64 0))))), 
  (.mk (some 5) none (.pure (.mv (.c (.i .i64 0))))), 
  (.mk (some 6) none (.pure (.mv (.c (.i .i64 10)))))]) .ret)))))
def fn17 : AFn := (AFn.mk 24 [(.t 4), (.t 5), (.t 6)] (.seq (.ops [
  (.mk (some 4) none (.pure (.mv (.c (.i .i64 0))))), 
  (.mk (some 5) none (.pure (.mv (.c (.i .i64 0))))), 
  (.mk (some 6) none (.pure (.mv (.c (.i .i64 0)))))]) (.seq (.seq (.ops [
  (.mk (some 10) none (.pure (.mv (.t 0)))), 
  (.mk (some 11) none (.pure (.mv (.t 1)))), 
  (.mk (some 12) none (.call 48 [(.t 10), (.t 11)])), 
  (.mk (some 13) none (.pure (.not (.t 12))))]) (.cond (.t 13) (.seq (.ops [
  (.mk (some 4) none (.pure (.mv (.c (.i .i64 0))))), 
  (.mk (some 5) none (.pure (.mv (.c (.i .i64 0))))), 
  (.mk (some 6) none (.pure (.mv (.c (.i .i64 2)))))]) .ret) .skip)) (.seq (.ops [
  (.mk (some 15) none (.pure (.mv (.t 1)))), 
  (.mk (some 16) none (.call 49 [(.t 15)])), 
  (.mk (some 14) none (.pure (.mv (.t 16)))), 
  (.mk (some 17) none (.pure (.ext 0 (.t 14)))), 
  (.mk (some 18) none (.pure (.ext 1 (.t 14)))), 
  (.mk (some 19) none (.pure (.ext 2 (.t 14)))), 
  (.mk (some 7) none (.pure (.mv (.t 17)))), 
  (.mk (some 8) none (.pure (.mv (.t 18)))), 
  (.mk (some 9) none (.pure (.mv (.t 19))))]) (.seq (.seq (.ops [
  (.mk (some 20) none (.pure (.mv (.t 9)))), 
  (.mk (some 21) none (.pure (.not (.t 20))))]) (.cond (.t 21) (.seq (.ops [
  (.mk (some 4) none (.pure (.mv (.c (.i .i64 0))))), 
  (.mk (some 5) none (.pure (.mv (.c (.i .i64 0))))), 
  (.mk (some 6) none (.pure (.mv (.c (.i .i64 10)))))]) .ret) .skip)) (.seq (.ops [
  (.mk (some 22) none (.pure (.mv (.t 7)))), 
  (.mk (some 23) none (.pure (.mv (.t 8)))), 
  (.mk (some 4) none (.pure (.mv (.t 22)))), 
  (.mk (some 5) none (.pure (.mv (.t 23)))), 
  (.mk (some 6) none (.pure (.mv (.c (.i .i64 0)))))]) .ret))))))
def fn20 : AFn := (AFn.mk 26 [(.t 4)] (.seq (.ops [
  (.mk (some 4) none (.pure (.mv (.c (.b false)))))]) (.seq (.seq (.ops [
  (.mk (some 6) none (.pure (.mv (.t 0)))), 
  (.mk (some 7) none (.pure (.len false (.t 6)))), 
  (.mk (some 8) none (.pure (.mv (.t 1)))), 
  (.mk (some 9) none (.pure (.len false (.t 8)))), 
  (.mk (some 10) none (.pure (.bin .neq (.t 7) (.t 9))))]) (.cond (.t 10) (.seq (.ops [
  (.mk (some 4) none (.pure (.mv (.c (.b false)))))]) .ret) .skip)) (.seq (.seq (.ops [
  (.mk (some 5) none (.pure (.mv (.c (.i .i64 0)))))]) (.block 0 (.loop (.seq (.seq (.ops [
  (.mk (some 11) none (.pure (.mv (.t 5)))), 
  (.mk (some 12) none (.pure (.mv (.t 0)))), 
  (.mk (some 13) none (.pure (.len false (.t 12)))), 
  (.mk (some 14) none (.pure (.bin .lss (.t 11) (.t 13))))]) (.cond (.t 14) .skip (.exit 0))) (.seq (.block 1 (.seq (.any [(
  (.mk (some 17) none (.pure (.mv (.t 0)))), false), (
  (.mk (some 18) none (.pure (.mv (.t 5)))), false), (
  (.mk (some 19) none (.pure (.ixS 1 (.t 17) (.t 18)))), false), (
  (.mk (some 20) none (.ld true 1 (.t 19))), false), (
  (.mk (some 21) none (.pure (.mv (.t 1)))), false), (
  (.mk (some 22) none (.pure (.mv (.t 5)))), false), (
  (.mk (some 23) none (.pure (.ixS 1 (.t 21) (.t 22)))), false), (
  (.mk (some 24) none (.ld true 1 (.t 23))), false), (
  (.mk (some 25) none (.pure (.bin .neq (.t 20) (.t 24)))), false)]) (.cond (.t 25) (.seq (.ops [
  (.mk (some 4) none (.pure (.mv (.c (.b false)))))]) .ret) .skip))) (.ops [
  (.mk (some 15) none (.pure (.mv (.t 5)))), 
  (.mk (some 16) none (.pure (.bin .add (.t 15) (.c (.i .i64 1))))), 
  (.mk (some 5) none (.pure (.mv (.t 16))))])))))) (.seq (.ops [
  (.mk (some 4) none (.pure (.mv (.c (.b true)))))]) .ret)))))
def fn21 : AFn := (AFn.mk 22 [(.t 6), (.t 7)] (.seq (.ops [
  (.mk (some 6) none (.pure (.mv (.c .nsl)))), 
  (.mk (some 7) none (.pure (.mv (.c (.i .i64 0)))))]) (.seq (.seq (.ops [
  (.mk (some 9) none (.pure (.mv (.t 0)))), 
  (.mk (some 10) none (.pure (.mv (.t 1)))), 
  (.mk (some 11) none (.call 51 [(.t 9), (.t 10)])), 
  (.mk (some 8) none (.pure (.mv (.t 11))))]) (.seq (.ops [
  (.mk (some 12) none (.pure (.mv (.t 8)))), 
  (.mk (some 13) none (.pure (.bin .neq (.t 12) (.c (.i .i64 0)))))]) (.cond (.t 13) (.seq (.ops [
  (.mk (some 14) none (.pure (.mv (.t 8)))), 
  (.mk (some 6) none (.pure (.mv (.c .nsl)))), 
  (.mk (some 7) none (.pure (.mv (.t 14))))]) .ret) .skip))) (.seq (.seq (.ops [
  (.mk (some 15) none (.pure (.mv (.t 0)))), 
  (.mk (some 16) none (.pure (.mv (.t 2)))), 
  (.mk (some 17) none (.call 52 [(.t 15), (.t 16)])), 
  (.mk (some 18) none (.pure (.not (.t 17))))]) (.cond (.t 18) (.seq (.ops [
  (.mk (some 6) none (.pure (.mv (.c .nsl)))), 
  (.mk (some 7) none (.pure (.mv (.c (.i .i64 2)))))]) .ret) .skip)) (.seq (.ops [
  (.mk (some 19) none (.pure (.mv (.t 1)))), 
  (.mk (some 20) none (.pure (.mv (.t 2)))), 
  (.mk (some 21) none (.call 53 [(.t 19), (.t 20)])), 
  (.mk (some 6) none (.pure (.mv (.t 21)))), 
  (.mk (some 7) none (.pure (.mv (.c (.i .i64 0)))))]) .ret)))))
def fn25 : AFn := (AFn.mk 45 [(.t 6), (.t 7), (.t 8)] (.seq (.ops [
  (.mk (some 6) none (.pure (.mv (.c (.i .i64 0))))), 
  (.mk (some 7) none (.pure (.mv (.c (.b false))))), 
  (.mk (some 8) none (.pure (.mv (.c (.i .i64 0)))))]) (.seq (.seq (.ops [
  (.mk (some 11) none (.pure (.mv (.t 0)))), 
  (.mk (some 12) none (.pure (.mv (.t 1)))), 
  (.mk (some 13) none (.call 44 [(.t 11), (.t 12)])), 
  (.mk (some 14) none (.pure (.not (.t 13)))), 
  (.mk (some 15) none (.pure (.mv (.t 14)))), 
  (.mk (some 16) (some (15, false)) (.pure (.mv (.t 0)))), 
  (.mk (some 17) (some (15, false)) (.pure (.mv (.t 2)))), 
  (.mk (some 18) (some (15, false)) (.call 65 [(.t 16), (.t 17)])), 
  (.mk (some 19) (some (15, false)) (.pure (.not (.t 18)))), 
  (.mk (some 20) none (.pure (.pick (.t 15) (.c (.b true)) (.t 19))))]) (.cond (.t 20) (.seq (.ops [
  (.mk (some 6) none (.pure (.mv (.c (.i .i64 0))))), 
  (.mk (some 7) none (.pure (.mv (.c (.b false))))), 
  (.mk (some 8) none (.pure (.mv (.c (.i .i64 2)))))]) .ret) .skip)) (.seq (.seq (.ops [
  (.mk (some 21) none (.pure (.mv (.t 0)))), 
  (.mk (some 22) none (.pure (.mv (.t 1)))), 
  (.mk (some 23) none (.pure (.mv (.t 2)))), 
  (.mk (some 24) none (.call 66 [(.t 22), (.t 23)])), 
  (.mk (some 25) none (.bsl 53 1 [.nfn] 1 [((0, 1), (.t 24))])), 
  (.mk (some 26) none (.call 45 [(.t 21), (.t 25)])), 
  (.mk (some 9) none (.pure (.mv (.t 26))))]) (.seq (.ops [
  (.mk (some 27) none (.pure (.mv (.t 9)))), 
  (.mk (some 28) none (.pure (.len false (.t 27)))), 
  (.mk (some 29) none (.pure (.bin .gtr (.t 28) (.c (.i .i64 0)))))]) (.cond (.t 29) (.seq (.ops [
  (.mk (some 30) none (.pure (.mv (.t 9)))), 
  (.mk (some 31) none (.pure (.ixS 1 (.t 30) (.c (.i .i64 0))))), 
  (.mk (some 32) none (.ld true 1 (.t 31))), 
  (.mk (some 6) none (.pure (.mv (.t 32)))), 
  (.mk (some 7) none (.pure (.mv (.c (.b false))))), 
  (.mk (some 8) none (.pure (.mv (.c (.i .i64 0)))))]) .ret) .skip))) (.seq (.ops [
  (.mk (some 33) none (.pure (.mv (.t 0)))), 
  (.mk (some 34) none (.pure (.bin .shl (.c (.i .i64 1)) (.t 33)))), 
  (.mk (some 35) none (.pure (.bin .sub (.t 34) (.c (.i .i64 1))))), 
  (.mk (some 10) none (.pure (.mv (.t 35))))]) (.seq (.flt [(
  (.mk (some 36) none (.pure (.mv (.t 10)))), false), (
  (.mk (some 37) none (.pure (.mv (.t 2)))), false), (
  (.mk (some 38) none (.pure (.mv (.t 10)))), false), (
  (.mk (some 39) none (.call 67 [(.t 37), (.t 38)])), false), (
  (.mk (some 40) none (.pure (.mv (.t 1)))), false), (
  (.mk (some 41) none (.pure (.mv (.t 10)))), false), (
  (.mk (some 42) none (.pure (.ixS 1 (.t 40) (.t 41)))), false), (
  (.mk (some 43) none (.ld true 1 (.t 42))), true), (
  (.mk (some 44) none (.pure (.bin .eql (.t 39) (.t 43)))), false), (
  (.mk (some 6) none (.pure (.mv (.t 36)))), false), (
  (.mk (some 7) none (.pure (.mv (.t 44)))), false), (
  (.mk (some 8) none (.pure (.mv (.c (.i .i64 0))))), false)]) .ret))))))
def fn29 : AFn := (AFn.mk 37 [(.t 4), (.t 5), (.t 6), (.t 7)] (.seq (.ops [
  (.mk (some 4) none (.pure (.mv (.c (.i .i64 0))))), 
  (.mk (some 5) none (.pure (.mv (.c (.i .i64 0))))), 
  (.mk (some 6) none (.pure (.mv (.c (.i .i64 0))))), 
  (.mk (some 7) none (.pure (.mv (.c (.i .i64 0)))))]) (.seq (.seq (.ops [
  (.mk (some 11) none (.pure (.mv (.t 0)))), 
  (.mk (some 12) none (.pure (.mv (.t 1)))), 
  (.mk (some 13) none (.call 51 [(.t 11), (.t 12)])), 
  (.mk (some 8) none (.pure (.mv (.t 13))))]) (.seq (.ops [
  (.mk (some 14) none (.pure (.mv (.t 8)))), 
  (.mk (some 15) none (.pure (.bin .neq (.t 14) (.c (.i .i64 0)))))]) (.cond (.t 15) (.seq (.ops [
  (.mk (some 16) none (.pure (.mv (.t 8)))), 
  (.mk (some 4) none (.pure (.mv (.c (.i .i64 0))))), 
  (.mk (some 5) none (.pure (.mv (.c (.i .i64 0))))), 
  (.mk (some 6) none (.pure (.mv (.c (.i .i64 0))))), 
  (.mk (some 7) none (.pure (.mv (.t 16))))]) .ret) .skip))) (.seq (.ops [
  (.mk (some 17) none (.pure (.mv (.t 1)))), 
  (.mk (some 18) none (.pure (.mv (.t 0)))), 
  (.mk (some 19) none (.call 45 [(.t 18), (.c .nsl)])), 
  (.mk (some 20) none (.call 70 [(.t 17), (.t 19)])), 
  (.mk (some 9) none (.pure (.mv (.t 20))))]) (.seq (.ops [
  (.mk (some 21) none (.pure (.mv (.t 0)))), 
  (.mk (some 22) none (.pure (.mv (.t 1)))), 
  (.mk (some 23) none (.pure (.mv (.t 9)))), 
  (.mk (some 24) none (.call 71 [(.t 22), (.t 23)])), 
  (.mk (some 25) none (.bsl 53 1 [.nfn] 1 [((0, 1), (.t 24))])), 
  (.mk (some 26) none (.call 45 [(.t 21), (.t 25)])), 
  (.mk (some 10) none (.pure (.mv (.t 26))))]) (.seq (.any [(
  (.mk (some 27) none (.pure (.mv (.t 9)))), false), (
  (.mk (some 28) none (.pure (.mv (.t 10)))), false), (
  (.mk (some 29) none (.pure (.ixS 1 (.t 28) (.c (.i .i64 0))))), false), (
  (.mk (some 30) none (.ld true 1 (.t 29))), false), (
  (.mk (some 31) none (.pure (.mv (.t 10)))), false), (
  (.mk (some 32) none (.pure (.mv (.t 10)))), false), (
  (.mk (some 33) none (.pure (.len false (.t 32)))), false), (
  (.mk (some 34) none (.pure (.bin .sub (.t 33) (.c (.i .i64 1))))), false), (
  (.mk (some 35) none (.pure (.ixS 1 (.t 31) (.t 34)))), false), (
  (.mk (some 36) none (.ld true 1 (.t 35))), false), (
  (.mk (some 4) none (.pure (.mv (.t 27)))), false), (
  (.mk (some 5) none (.pure (.mv (.t 30)))), false), (
  (.mk (some 6) none (.pure (.mv (.t 36)))), false), (
  (.mk (some 7) none (.pure (.mv (.c (.i .i64 0))))), false)]) .ret))))))
def fn31 : AFn := (AFn.mk 67 [(.t 4), (.t 5)] (.seq (.ops [
  (.mk (some 4) none (.pure (.mv (.c .nsl)))), 
  (.mk (some 5) none (.pure (.mv (.c (.i .i64 0)))))]) (.seq (.ops [
  (.mk (some 15) none (.pure (.mv (.t 0)))), 
  (.mk (some 16) none (.pure (.mv (.t 1)))), 
  (.mk (some 17) none (.call 29 [(.t 15), (.t 16)])), 
  (.mk (some 14) none (.pure (.mv (.t 17)))), 
  (.mk (some 18) none (.pure (.ext 0 (.t 14)))), 
  (.mk (some 19) none (.pure (.ext 1 (.t 14)))), 
  (.mk (some 20) none (.pure (.ext 2 (.t 14)))), 
  (.mk (some 21) none (.pure (.ext 3 (.t 14)))), 
  (.mk (some 6) none (.pure (.mv (.t 18)))), 
  (.mk (some 7) none (.pure (.mv (.t 19)))), 
  (.mk (some 8) none (.pure (.mv (.t 20)))), 
  (.mk (some 9) none (.pure (.mv (.t 21))))]) (.seq (.seq (.ops [
  (.mk (some 22) none (.pure (.mv (.t 9)))), 
  (.mk (some 23) none (.pure (.bin .neq (.t 22) (.c (.i .i64 0)))))]) (.cond (.t 23) (.seq (.ops [
  (.mk (some 24) none (.pure (.mv (.t 9)))), 
  (.mk (some 4) none (.pure (.mv (.c .nsl)))), 
  (.mk (some 5) none (.pure (.mv (.t 24))))]) .ret) .skip)) (.seq (.ops [
  (.mk (some 25) none (.pure (.mv (.t 1)))), 
  (.mk (some 26) none (.pure (.len false (.t 25)))), 
  (.mk (some 27) none (.mk 3 1 8 [(.i .i64 0)] (.t 26) (.t 26))), 
  (.mk (some 10) none (.pure (.mv (.t 27))))]) (.seq (.seq (.ops [
  (.mk (some 28) none (.pure (.mv (.t 10)))), 
  (.mk (some 29) none (.pure (.len false (.t 28)))), 
  (.mk (some 30) none (.pure (.mv (.c (.i .i64 0)))))]) (.block 0 (.loop (.seq (.ops [
  (.mk (some 31) none (.pure (.bin .lss (.t 30) (.t 29))))]) (.seq (.cond (.t 31) .skip (.exit 0)) (.seq (.block 1 (.seq (.ops [
  (.mk (some 32) none (.pure (.mv (.t 30)))), 
  (.mk (some 11) none (.pure (.mv (.t 32))))]) (.seq (.ops [
  (.mk (some 33) none (.pure (.mv (.t 1)))), 
  (.mk (some 34) none (.pure (.mv (.t 0)))), 
  (.mk (some 35) none (.pure (.mv (.t 11)))), 
  (.mk (some 36) none (.pure (.mv (.t 7)))), 
  (.mk (some 37) none (.pure (.bin .and (.t 35) (.t 36)))), 
  (.mk (some 38) none (.call 73 [(.t 37)])), 
  (.mk (some 39) none (.bsl 53 1 [.nfn] 1 [((0, 1), (.t 38))])), 
  (.mk (some 40) none (.call 45 [(.t 34), (.t 39)])), 
  (.mk (some 41) none (.call 70 [(.t 33), (.t 40)])), 
  (.mk (some 12) none (.pure (.mv (.t 41))))]) (.seq (.ops [
  (.mk (some 42) none (.pure (.mv (.t 1)))), 
  (.mk (some 43) none (.pure (.mv (.t 0)))), 
  (.mk (some 44) none (.pure (.mv (.t 11)))), 
  (.mk (some 45) none (.pure (.mv (.t 7)))), 
  (.mk (some 46) none (.pure (.bin .or (.t 44) (.t 45)))), 
  (.mk (some 47) none (.call 74 [(.t 46)])), 
  (.mk (some 48) none (.bsl 53 1 [.nfn] 1 [((0, 1), (.t 47))])), 
  (.mk (some 49) none (.call 45 [(.t 43), (.t 48)])), 
  (.mk (some 50) none (.call 70 [(.t 42), (.t 49)])), 
  (.mk (some 13) none (.pure (.mv (.t 50))))]) (.ops [
  (.mk (some 51) none (.pure (.mv (.t 10)))), 
  (.mk (some 52) none (.pure (.mv (.t 11)))), 
  (.mk (some 53) none (.pure (.mv (.t 12)))), 
  (.mk (some 54) none (.pure (.mv (.t 13)))), 
  (.mk (some 55) none (.pure (.bin .add (.t 53) (.t 54)))), 
  (.mk (some 56) none (.pure (.mv (.t 1)))), 
  (.mk (some 57) none (.pure (.mv (.t 7)))), 
  (.mk (some 58) none (.pure (.ixS 1 (.t 56) (.t 57)))), 
  (.mk (some 59) none (.ld true 1 (.t 58))), 
  (.mk (some 60) none (.pure (.bin .sub (.t 55) (.t 59)))), 
  (.mk (some 61) none (.pure (.ixS 1 (.t 51) (.t 52)))), 
  (.mk none none (.st 1 (.t 61) (.t 60)))]))))) (.ops [
  (.mk (some 62) none (.pure (.bin .add (.t 30) (.c (.i .i64 1))))), 
  (.mk (some 30) none (.pure (.mv (.t 62))))]))))))) (.seq (.ops [
  (.mk (some 63) none (.pure (.mv (.t 10)))), 
  (.mk (some 64) none (.pure (.mv (.t 0)))), 
  (.mk (some 65) none (.call 75 [(.t 64)])), 
  (.mk (some 66) none (.call 53 [(.t 63), (.t 65)])), 
  (.mk (some 4) none (.pure (.mv (.t 66)))), 
  (.mk (some 5) none (.pure (.mv (.c (.i .i64 0)))))]) .ret)))))))
def fn33 : AFn := (AFn.mk 35 [(.t 6), (.t 7)] (.seq (.ops [
  (.mk (some 6) none (.pure (.mv (.c (.i .i64 0))))), 
  (.mk (some 7) none (.pure (.mv (.c (.i .i64 0)))))]) (.seq (.seq (.ops [
  (.mk (some 10) none (.pure (.mv (.t 0)))), 
  (.mk (some 11) none (.pure (.mv (.t 1)))), 
  (.mk (some 12) none (.call 44 [(.t 10), (.t 11)])), 
  (.mk (some 13) none (.pure (.not (.t 12)))), 
  (.mk (some 14) none (.pure (.mv (.t 13)))), 
  (.mk (some 15) (some (14, false)) (.pure (.mv (.t 0)))), 
  (.mk (some 16) (some (14, false)) (.pure (.mv (.t 2)))), 
  (.mk (some 17) (some (14, false)) (.call 78 [(.t 15), (.t 16)])), 
  (.mk (some 18) (some (14, false)) (.pure (.not (.t 17)))), 
  (.mk (some 19) none (.pure (.pick (.t 14) (.c (.b true)) (.t 18))))]) (.cond (.t 19) (.seq (.ops [
  (.mk (some 6) none (.pure (.mv (.c (.i .i64 0))))), 
  (.mk (some 7) none (.pure (.mv (.c (.i .i64 2)))))]) .ret) .skip)) (.seq (.ops [
  (.mk (some 8) none (.pure (.mv (.c (.i .i64 0)))))]) (.seq (.seq (.ops [
  (.mk (some 9) none (.pure (.mv (.c (.i .i64 1)))))]) (.block 0 (.loop (.seq (.seq (.ops [
  (.mk (some 20) none (.pure (.mv (.t 9)))), 
  (.mk (some 21) none (.pure (.mv (.t 2)))), 
  (.mk (some 22) none (.call 79 [(.t 21)])), 
  (.mk (some 23) none (.pure (.bin .leq (.t 20) (.t 22))))]) (.cond (.t 23) .skip (.exit 0))) (.seq (.block 1 (.ops [
  (.mk (some 26) none (.pure (.mv (.t 8)))), 
  (.mk (some 27) none (.pure (.mv (.t 1)))), 
  (.mk (some 28) none (.pure (.mv (.t 2)))), 
  (.mk (some 29) none (.pure (.mv (.t 9)))), 
  (.mk (some 30) none (.call 80 [(.t 28), (.t 29)])), 
  (.mk (some 31) none (.pure (.ixS 1 (.t 27) (.t 30)))), 
  (.mk (some 32) none (.ld true 1 (.t 31))), 
  (.mk (some 33) none (.pure (.bin .add (.t 26) (.t 32)))), 
  (.mk (some 8) none (.pure (.mv (.t 33))))])) (.ops [
  (.mk (some 24) none (.pure (.mv (.t 9)))), 
  (.mk (some 25) none (.pure (.bin .add (.t 24) (.c (.i .i64 1))))), 
  (.mk (some 9) none (.pure (.mv (.t 25))))])))))) (.seq (.ops [
  (.mk (some 34) none (.pure (.mv (.t 8)))), 
  (.mk (some 6) none (.pure (.mv (.t 34)))), 
  (.mk (some 7) none (.pure (.mv (.c (.i .i64 0)))))]) .ret))))))
def fn35 : AFn := (AFn.mk 51 [(.t 6), (.t 7), (.t 8)] (.seq (.ops [
  (.mk (some 5) none (.bx 22 1 (.t 2))), 
  (.mk (some 6) none (.pure (.mv (.c .nsl)))), 
  (.mk (some 7) none (.pure (.mv (.c (.i .i64 0))))), 
  (.mk (some 8) none (.pure (.mv (.c (.i .i64 0)))))]) (.seq (.seq (.ops [
  (.mk (some 15) none (.pure (.mv (.t 0)))), 
  (.mk (some 16) none (.pure (.mv (.t 1)))), 
  (.mk (some 17) none (.call 51 [(.t 15), (.t 16)])), 
  (.mk (some 9) none (.pure (.mv (.t 17))))]) (.seq (.ops [
  (.mk (some 18) none (.pure (.mv (.t 9)))), 
  (.mk (some 19) none (.pure (.bin .neq (.t 18) (.c (.i .i64 0)))))]) (.cond (.t 19) (.seq (.ops [
  (.mk (some 20) none (.pure (.mv (.t 9)))), 
  (.mk (some 6) none (.pure (.mv (.c .nsl)))), 
  (.mk (some 7) none (.pure (.mv (.c (.i .i64 0))))), 
  (.mk (some 8) none (.pure (.mv (.t 20))))]) .ret) .skip))) (.seq (.seq (.ops [
  (.mk (some 21) none (.pure (.mv (.t 0)))), 
  (.mk (some 22) none (.ld true 1 (.t 5))), 
  (.mk (some 23) none (.call 78 [(.t 21), (.t 22)])), 
  (.mk (some 24) none (.pure (.not (.t 23))))]) (.cond (.t 24) (.seq (.ops [
  (.mk (some 6) none (.pure (.mv (.c .nsl)))), 
  (.mk (some 7) none (.pure (.mv (.c (.i .i64 0))))), 
  (.mk (some 8) none (.pure (.mv (.c (.i .i64 2)))))]) .ret) .skip)) (.seq (.ops [
  (.mk (some 25) none (.pure (.mv (.t 0)))), 
  (.mk (some 26) none (.call 75 [(.t 25)])), 
  (.mk (some 10) none (.pure (.mv (.t 26))))]) (.seq (.ops [
  (.mk (some 27) none (.pure (.mv (.t 10)))), 
  (.mk (some 28) none (.pure (.mkfn 82 [] [(.t 5)]))), 
  (.mk (some 29) none (.call 81 [(.t 27), (.t 28)]))]) (.seq (.ops [
  (.mk (some 30) none (.pure (.mv (.t 1)))), 
  (.mk (some 31) none (.pure (.mv (.t 10)))), 
  (.mk (some 32) none (.call 53 [(.t 30), (.t 31)])), 
  (.mk (some 11) none (.pure (.mv (.t 32))))]) (.seq (.ops [
  (.mk (some 12) none (.pure (.mv (.c (.i .i64 0)))))]) (.seq (.seq (.ops [
  (.mk (some 33) none (.pure (.mv (.t 11)))), 
  (.mk (some 34) none (.pure (.len false (.t 33)))), 
  (.mk (some 35) none (.pure (.mv (.c (.i .i64 0)))))]) (.block 0 (.loop (.seq (.ops [
  (.mk (some 36) none (.pure (.bin .lss (.t 35) (.t 34))))]) (.seq (.cond (.t 36) .skip (.exit 0)) (.seq (.block 1 (.seq (.ops [
  (.mk (some 37) none (.pure (.mv (.t 35)))), 
  (.mk (some 38) none (.pure (.ixS 1 (.t 33) (.t 35)))), 
  (.mk (some 39) none (.ld true 1 (.t 38))), 
  (.mk (some 13) none (.pure (.mv (.t 37)))), 
  (.mk (some 14) none (.pure (.mv (.t 39))))]) (.ops [
  (.mk (some 40) none (.pure (.mv (.t 12)))), 
  (.mk (some 41) none (.ld true 1 (.t 5))), 
  (.mk (some 42) none (.pure (.mv (.t 13)))), 
  (.mk (some 43) none (.pure (.ixS 1 (.t 41) (.t 42)))), 
  (.mk (some 44) none (.ld true 1 (.t 43))), 
  (.mk (some 45) none (.pure (.mv (.t 14)))), 
  (.mk (some 46) none (.pure (.bin .mul (.t 44) (.t 45)))), 
  (.mk (some 47) none (.pure (.bin .add (.t 40) (.t 46)))), 
  (.mk (some 12) none (.pure (.mv (.t 47))))]))) (.ops [
  (.mk (some 48) none (.pure (.bin .add (.t 35) (.c (.i .i64 1))))), 
  (.mk (some 35) none (.pure (.mv (.t 48))))]))))))) (.seq (.ops [
  (.mk (some 49) none (.pure (.mv (.t 11)))), 
  (.mk (some 50) none (.pure (.mv (.t 12)))), 
  (.mk (some 6) none (.pure (.mv (.t 49)))), 
  (.mk (some 7) none (.pure (.mv (.t 50)))), 
  (.mk (some 8) none (.pure (.mv (.c (.i .i64 0)))))]) .ret))))))))))
def fn39 : AFn := (AFn.mk 17 [(.t 4)] (.seq (.ops [
  (.mk (some 4) none (.pure (.mv (.c (.b false)))))]) (.seq (.ops [
  (.mk (some 9) none (.pure (.mv (.t 0)))), 
  (.mk (some 10) none (.pure (.mv (.t 1)))), 
  (.mk (some 11) none (.call 17 [(.t 9), (.t 10)])), 
  (.mk (some 8) none (.pure (.mv (.t 11)))), 
  (.mk (some 12) none (.pure (.ext 0 (.t 8)))), 
  (.mk (some 13) none (.pure (.ext 1 (.t 8)))), 
  (.mk (some 14) none (.pure (.ext 2 (.t 8)))), 
  (.mk (some 5) none (.pure (.mv (.t 12)))), 
  (.mk (some 6) none (.pure (.mv (.t 13)))), 
  (.mk (some 7) none (.pure (.mv (.t 14))))]) (.seq (.ops [
  (.mk (some 15) none (.pure (.mv (.t 7)))), 
  (.mk (some 16) none (.pure (.bin .eql (.t 15) (.c (.i .i64 10))))), 
  (.mk (some 4) none (.pure (.mv (.t 16))))]) .ret))))
def fn42 : AFn := (AFn.mk 36 [(.t 4)] (.seq (.ops [
  (.mk (some 4) none (.pure (.mv (.c (.b false)))))]) (.seq (.seq (.ops [
  (.mk (some 5) none (.pure (.mv (.c (.i .i64 0)))))]) (.block 0 (.loop (.seq (.seq (.ops [
  (.mk (some 6) none (.pure (.mv (.t 5)))), 
  (.mk (some 7) none (.pure (.mv (.t 0)))), 
  (.mk (some 8) none (.pure (.len false (.t 7)))), 
  (.mk (some 9) none (.pure (.bin .lss (.t 6) (.t 8)))), 
  (.mk (some 10) none (.pure (.mv (.t 9)))), 
  (.mk (some 11) (some (10, true)) (.pure (.mv (.t 5)))), 
  (.mk (some 12) (some (10, true)) (.pure (.mv (.t 1)))), 
  (.mk (some 13) (some (10, true)) (.pure (.len false (.t 12)))), 
  (.mk (some 14) (some (10, true)) (.pure (.bin .lss (.t 11) (.t 13)))), 
  (.mk (some 15) none (.pure (.pick (.t 10) (.t 14) (.c (.b false)))))]) (.cond (.t 15) .skip (.exit 0))) (.seq (.block 1 (.seq (.any [(
  (.mk (some 18) none (.pure (.mv (.t 0)))), false), (
  (.mk (some 19) none (.pure (.mv (.t 5)))), false), (
  (.mk (some 20) none (.pure (.ixS 1 (.t 18) (.t 19)))), false), (
  (.mk (some 21) none (.ld true 1 (.t 20))), false), (
  (.mk (some 22) none (.pure (.mv (.t 1)))), false), (
  (.mk (some 23) none (.pure (.mv (.t 5)))), false), (
  (.mk (some 24) none (.pure (.ixS 1 (.t 22) (.t 23)))), false), (
  (.mk (some 25) none (.ld true 1 (.t 24))), false), (
  (.mk (some 26) none (.pure (.bin .neq (.t 21) (.t 25)))), false)]) (.cond (.t 26) (.seq (.any [(
  (.mk (some 27) none (.pure (.mv (.t 0)))), false), (
  (.mk (some 28) none (.pure (.mv (.t 5)))), false), (
  (.mk (some 29) none (.pure (.ixS 1 (.t 27) (.t 28)))), false), (
  (.mk (some 30) none (.ld true 1 (.t 29))), false), (
  (.mk (some 31) none (.pure (.mv (.t 1)))), false), (
  (.mk (some 32) none (.pure (.mv (.t 5)))), false), (
  (.mk (some 33) none (.pure (.ixS 1 (.t 31) (.t 32)))), false), (
  (.mk (some 34) none (.ld true 1 (.t 33))), false), (
  (.mk (some 35) none (.pure (.bin .lss (.t 30) (.t 34)))), false), (
  (.mk (some 4) none (.pure (.mv (.t 35)))), false)]) .ret) .skip))) (.ops [
  (.mk (some 16) none (.pure (.mv (.t 5)))), 
  (.mk (some 17) none (.pure (.bin .add (.t 16) (.c (.i .i64 1))))), 
  (.mk (some 5) none (.pure (.mv (.t 17))))])))))) (.seq (.ops [
  (.mk (some 4) none (.pure (.mv (.c (.b false)))))]) .ret))))
def fn43 : AFn := (AFn.mk 27 [(.t 4)] (.seq (.ops [
  (.mk (some 4) none (.pure (.mv (.c (.b false)))))]) (.seq (.seq (.ops [
  (.mk (some 6) none (.pure (.mv (.t 1)))), 
  (.mk (some 7) none (.pure (.len false (.t 6)))), 
  (.mk (some 8) none (.pure (.mv (.t 0)))), 
  (.mk (some 9) none (.pure (.bin .neq (.t 7) (.t 8))))]) (.cond (.t 9) (.seq (.ops [
  (.mk (some 4) none (.pure (.mv (.c (.b false)))))]) .ret) .skip)) (.seq (.seq (.ops [
  (.mk (some 5) none (.pure (.mv (.c (.i .i64 0)))))]) (.block 0 (.loop (.seq (.seq (.ops [
  (.mk (some 10) none (.pure (.mv (.t 5)))), 
  (.mk (some 11) none (.pure (.mv (.t 0)))), 
  (.mk (some 12) none (.pure (.bin .lss (.t 10) (.t 11))))]) (.cond (.t 12) .skip (.exit 0))) (.seq (.block 1 (.seq (.ops [
  (.mk (some 15) none (.pure (.mv (.t 1)))), 
  (.mk (some 16) none (.pure (.mv (.t 5)))), 
  (.mk (some 17) none (.pure (.ixS 1 (.t 15) (.t 16)))), 
  (.mk (some 18) none (.ld true 1 (.t 17))), 
  (.mk (some 19) none (.pure (.bin .lss (.t 18) (.c (.i .i64 0))))), 
  (.mk (some 20) none (.pure (.mv (.t 19)))), 
  (.mk (some 21) (some (20, false)) (.pure (.mv (.t 1)))), 
  (.mk (some 22) (some (20, false)) (.pure (.mv (.t 5)))), 
  (.mk (some 23) (some (20, false)) (.pure (.ixS 1 (.t 21) (.t 22)))), 
  (.mk (some 24) (some (20, false)) (.ld true 1 (.t 23))), 
  (.mk (some 25) (some (20, false)) (.pure (.bin .gtr (.t 24) (.c (.i .i64 1000))))), 
  (.mk (some 26) none (.pure (.pick (.t 20) (.c (.b true)) (.t 25))))]) (.cond (.t 26) (.seq (.ops [
  (.mk (some 4) none (.pure (.mv (.c (.b false)))))]) .ret) .skip))) (.ops [
  (.mk (some 13) none (.pure (.mv (.t 5)))), 
  (.mk (some 14) none (.pure (.bin .add (.t 13) (.c (.i .i64 1))))), 
  (.mk (some 5) none (.pure (.mv (.t 14))))])))))) (.seq (.ops [
  (.mk (some 4) none (.pure (.mv (.c (.b true)))))]) .ret)))))
def fn44 : AFn := (AFn.mk 24 [(.t 4)] (.seq (.ops [
  (.mk (some 4) none (.pure (.mv (.c (.b false)))))]) (.seq (.ops [
  (.mk (some 5) none (.pure (.mv (.t 0)))), 
  (.mk (some 6) none (.call 84 [(.t 5)])), 
  (.mk (some 7) none (.pure (.mv (.t 6)))), 
  (.mk (some 8) (some (7, true)) (.pure (.mv (.t 1)))), 
  (.mk (some 9) (some (7, true)) (.pure (.len false (.t 8)))), 
  (.mk (some 10) (some (7, true)) (.pure (.mv (.t 0)))), 
  (.mk (some 11) (some (7, true)) (.pure (.bin .shl (.c (.i .i64 1)) (.t 10)))), 
  (.mk (some 12) (some (7, true)) (.pure (.bin .eql (.t 9) (.t 11)))), 
  (.mk (some 13) none (.pure (.pick (.t 7) (.t 12) (.c (.b false))))), 
  (.mk (some 14) none (.pure (.mv (.t 13)))), 
  (.mk (some 15) (some (14, true)) (.pure (.mv (.t 1)))), 
  (.mk (some 16) (some (14, true)) (.pure (.ixS 1 (.t 15) (.c (.i .i64 0))))), 
  (.mk (some 17) (some (14, true)) (.ld true 1 (.t 16))), 
  (.mk (some 18) (some (14, true)) (.pure (.bin .eql (.t 17) (.c (.i .i64 0))))), 
  (.mk (some 19) none (.pure (.pick (.t 14) (.t 18) (.c (.b false))))), 
  (.mk (some 20) none (.pure (.mv (.t 19)))), 
  (.mk (some 21) (some (20, true)) (.pure (.mv (.t 1)))), 
  (.mk (some 22) (some (20, true)) (.call 87 [(.t 21), (.c (.i .i64 1000000))])), 
  (.mk (some 23) none (.pure (.pick (.t 20) (.t 22) (.c (.b false))))), 
  (.mk (some 4) none (.pure (.mv (.t 23))))]) .ret)))
def fn45 : AFn := (AFn.mk 21 [(.t 4)] (.seq (.ops [
  (.mk (some 4) none (.pure (.mv (.c .nsl))))]) (.seq (.ops [
  (.mk (some 5) none (.pure (.mv (.c .nsl))))]) (.seq (.seq (.ops [
  (.mk (some 7) none (.pure (.mv (.t 0)))), 
  (.mk (some 8) none (.pure (.bin .shl (.c (.i .i64 1)) (.t 7)))), 
  (.mk (some 9) none (.pure (.mv (.c (.i .i64 0)))))]) (.block 0 (.loop (.seq (.ops [
  (.mk (some 10) none (.pure (.bin .lss (.t 9) (.t 8))))]) (.seq (.cond (.t 10) .skip (.exit 0)) (.seq (.block 1 (.seq (.ops [
  (.mk (some 11) none (.pure (.mv (.t 9)))), 
  (.mk (some 6) none (.pure (.mv (.t 11))))]) (.seq (.ops [
  (.mk (some 12) none (.pure (.mv (.t 6)))), 
  (.mk (some 13) none (.pure (.mv (.t 1)))), 
  (.mk (some 14) none (.call 88 [(.t 12), (.t 13)]))]) (.cond (.t 14) (.ops [
  (.mk (some 15) none (.pure (.mv (.t 5)))), 
  (.mk (some 16) none (.pure (.mv (.t 6)))), 
  (.mk (some 17) none (.bsl 3 1 [(.i .i64 0)] 1 [((0, 1), (.t 16))])), 
  (.mk (some 18) none (.app 3 1 8 [(.i .i64 0)] (.t 15) (.t 17))), 
  (.mk (some 5) none (.pure (.mv (.t 18))))]) .skip)))) (.ops [
  (.mk (some 19) none (.pure (.bin .add (.t 9) (.c (.i .i64 1))))), 
  (.mk (some 9) none (.pure (.mv (.t 19))))]))))))) (.seq (.ops [
  (.mk (some 20) none (.pure (.mv (.t 5)))), 
  (.mk (some 4) none (.pure (.mv (.t 20))))]) .ret)))))
def fn46 : AFn := (AFn.mk 4 [(.t 2)] (.seq (.ops [
  (.mk (some 1) none (.bx 3 1 (.t 0))), 
  (.mk (some 2) none (.pure (.mv (.c .nfn))))]) (.seq (.ops [
  (.mk (some 3) none (.pure (.mkfn 89 [] [(.t 1)]))), 
  (.mk (some 2) none (.pure (.mv (.t 3))))]) .ret)))
def fn47 : AFn := (AFn.mk 6 [(.t 4)] (.seq (.ops [
  (.mk (some 2) none (.bx 22 1 (.t 0))), 
  (.mk (some 3) none (.bx 3 1 (.t 1))), 
  (.mk (some 4) none (.pure (.mv (.c .nfn))))]) (.seq (.ops [
  (.mk (some 5) none (.pure (.mkfn 90 [] [(.t 2), (.t 3)]))), 
  (.mk (some 4) none (.pure (.mv (.t 5))))]) .ret)))
def fn48 : AFn := (AFn.mk 43 [(.t 4)] (.seq (.ops [
  (.mk (some 4) none (.pure (.mv (.c (.b false)))))]) (.seq (.seq (.ops [
  (.mk (some 6) none (.pure (.mv (.t 0)))), 
  (.mk (some 7) none (.pure (.bin .lss (.t 6) (.c (.i .i64 1))))), 
  (.mk (some 8) none (.pure (.mv (.t 7)))), 
  (.mk (some 9) (some (8, false)) (.pure (.mv (.t 0)))), 
  (.mk (some 10) (some (8, false)) (.pure (.bin .gtr (.t 9) (.c (.i .i64 6))))), 
  (.mk (some 11) none (.pure (.pick (.t 8) (.c (.b true)) (.t 10)))), 
  (.mk (some 12) none (.pure (.mv (.t 11)))), 
  (.mk (some 13) (some (12, false)) (.pure (.mv (.t 1)))), 
  (.mk (some 14) (some (12, false)) (.pure (.len false (.t 13)))), 
  (.mk (some 15) (some (12, false)) (.pure (.mv (.t 0)))), 
  (.mk (some 16) (some (12, false)) (.pure (.bin .shl (.c (.i .i64 1)) (.t 15)))), 
  (.mk (some 17) (some (12, false)) (.pure (.bin .neq (.t 14) (.t 16)))), 
  (.mk (some 18) none (.pure (.pick (.t 12) (.c (.b true)) (.t 17)))), 
  (.mk (some 19) none (.pure (.mv (.t 18)))), 
  (.mk (some 20) (some (19, false)) (.pure (.mv (.t 1)))), 
  (.mk (some 21) (some (19, false)) (.pure (.ixS 1 (.t 20) (.c (.i .i64 0))))), 
  (.mk (some 22) (some (19, false)) (.ld true 1 (.t 21))), 
  (.mk (some 23) (some (19, false)) (.pure (.bin .neq (.t 22) (.c (.i .i64 0))))), 
  (.mk (some 24) none (.pure (.pick (.t 19) (.c (.b true)) (.t 23))))]) (.cond (.t 24) (.seq (.ops [
  (.mk (some 4) none (.pure (.mv (.c (.b false)))))]) .ret) .skip)) (.seq (.seq (.ops [
  (.mk (some 5) none (.pure (.mv (.c (.i .i64 0)))))]) (.block 0 (.loop (.seq (.seq (.ops [
  (.mk (some 25) none (.pure (.mv (.t 5)))), 
  (.mk (some 26) none (.pure (.mv (.t 1)))), 
  (.mk (some 27) none (.pure (.len false (.t 26)))), 
  (.mk (some 28) none (.pure (.bin .lss (.t 25) (.t 27))))]) (.cond (.t 28) .skip (.exit 0))) (.seq (.block 1 (.seq (.ops [
  (.mk (some 31) none (.pure (.mv (.t 1)))), 
  (.mk (some 32) none (.pure (.mv (.t 5)))), 
  (.mk (some 33) none (.pure (.ixS 1 (.t 31) (.t 32)))), 
  (.mk (some 34) none (.ld true 1 (.t 33))), 
  (.mk (some 35) none (.pure (.bin .lss (.t 34) (.c (.i .i64 (-1000000)))))), 
  (.mk (some 36) none (.pure (.mv (.t 35)))), 
  (.mk (some 37) (some (36, false)) (.pure (.mv (.t 1)))), 
  (.mk (some 38) (some (36, false)) (.pure (.mv (.t 5)))), 
  (.mk (some 39) (some (36, false)) (.pure (.ixS 1 (.t 37) (.t 38)))), 
  (.mk (some 40) (some (36, false)) (.ld true 1 (.t 39))), 
  (.mk (some 41) (some (36, false)) (.pure (.bin .gtr (.t 40) (.c (.i .i64 1000000))))), 
  (.mk (some 42) none (.pure (.pick (.t 36) (.c (.b true)) (.t 41))))]) (.cond (.t 42) (.seq (.ops [
  (.mk (some 4) none (.pure (.mv (.c (.b false)))))]) .ret) .skip))) (.ops [
  (.mk (some 29) none (.pure (.mv (.t 5)))), 
  (.mk (some 30) none (.pure (.bin .add (.t 29) (.c (.i .i64 1))))), 
  (.mk (some 5) none (.pure (.mv (.t 30))))])))))) (.seq (.ops [
  (.mk (some 4) none (.pure (.mv (.c (.b true)))))]) .ret)))))
def fn49 : AFn := (AFn.mk 46 [(.t 2), (.t 3), (.t 4)] (.seq (.ops [
  (.mk (some 2) none (.pure (.mv (.c (.i .i64 0))))), 
  (.mk (some 3) none (.pure (.mv (.c (.i .i64 0))))), 
  (.mk (some 4) none (.pure (.mv (.c (.b false)))))]) (.seq (.seq (.ops [
  (.mk (some 5) none (.pure (.mv (.c (.i .i64 0)))))]) (.block 0 (.loop (.seq (.seq (.ops [
  (.mk (some 7) none (.pure (.mv (.t 5)))), 
  (.mk (some 8) none (.pure (.mv (.t 0)))), 
  (.mk (some 9) none (.pure (.len false (.t 8)))), 
  (.mk (some 10) none (.pure (.bin .lss (.t 7) (.t 9))))]) (.cond (.t 10) .skip (.exit 0))) (.seq (.block 1 (.seq (.ops [
  (.mk (some 13) none (.pure (.mv (.t 5)))), 
  (.mk (some 14) none (.pure (.bin .add (.t 13) (.c (.i .i64 1))))), 
  (.mk (some 6) none (.pure (.mv (.t 14))))]) (.block 2 (.loop (.seq (.seq (.ops [
  (.mk (some 15) none (.pure (.mv (.t 6)))), 
  (.mk (some 16) none (.pure (.mv (.t 0)))), 
  (.mk (some 17) none (.pure (.len false (.t 16)))), 
  (.mk (some 18) none (.pure (.bin .lss (.t 15) (.t 17))))]) (.cond (.t 18) .skip (.exit 2))) (.seq (.block 3 (.seq (.any [(
  (.mk (some 21) none (.pure (.mv (.t 0)))), false), (
  (.mk (some 22) none (.pure (.mv (.t 5)))), false), (
  (.mk (some 23) none (.pure (.ixS 1 (.t 21) (.t 22)))), false), (
  (.mk (some 24) none (.ld true 1 (.t 23))), false), (
  (.mk (some 25) none (.pure (.mv (.t 0)))), false), (
  (.mk (some 26) none (.pure (.mv (.t 6)))), false), (
  (.mk (some 27) none (.pure (.ixS 1 (.t 25) (.t 26)))), false), (
  (.mk (some 28) none (.ld true 1 (.t 27))), false), (
  (.mk (some 29) none (.pure (.bin .add (.t 24) (.t 28)))), false), (
  (.mk (some 30) none (.pure (.mv (.t 0)))), false), (
  (.mk (some 31) none (.pure (.mv (.t 5)))), false), (
  (.mk (some 32) none (.pure (.mv (.t 6)))), false), (
  (.mk (some 33) none (.pure (.bin .or (.t 31) (.t 32)))), false), (
  (.mk (some 34) none (.pure (.ixS 1 (.t 30) (.t 33)))), false), (
  (.mk (some 35) none (.ld true 1 (.t 34))), false), (
  (.mk (some 36) none (.pure (.mv (.t 0)))), false), (
  (.mk (some 37) none (.pure (.mv (.t 5)))), false), (
  (.mk (some 38) none (.pure (.mv (.t 6)))), false), (
  (.mk (some 39) none (.pure (.bin .and (.t 37) (.t 38)))), false), (
  (.mk (some 40) none (.pure (.ixS 1 (.t 36) (.t 39)))), false), (
  (.mk (some 41) none (.ld true 1 (.t 40))), false), (
  (.mk (some 42) none (.pure (.bin .add (.t 35) (.t 41)))), false), (
  (.mk (some 43) none (.pure (.bin .lss (.t 29) (.t 42)))), false)]) (.cond (.t 43) (.seq (.ops [
  (.mk (some 44) none (.pure (.mv (.t 5)))), 
  (.mk (some 45) none (.pure (.mv (.t 6)))), 
  (.mk (some 2) none (.pure (.mv (.t 44)))), 
  (.mk (some 3) none (.pure (.mv (.t 45)))), 
  (.mk (some 4) none (.pure (.mv (.c (.b true)))))]) .ret) .skip))) (.ops [
  (.mk (some 19) none (.pure (.mv (.t 6)))), 
  (.mk (some 20) none (.pure (.bin .add (.t 19) (.c (.i .i64 1))))), 
  (.mk (some 6) none (.pure (.mv (.t 20))))]))))))) (.ops [
  (.mk (some 11) none (.pure (.mv (.t 5)))), 
  (.mk (some 12) none (.pure (.bin .add (.t 11) (.c (.i .i64 1))))), 
  (.mk (some 5) none (.pure (.mv (.t 12))))])))))) (.seq (.ops [
  (.mk (some 2) none (.pure (.mv (.c (.i .i64 0))))), 
  (.mk (some 3) none (.pure (.mv (.c (.i .i64 0))))), 
  (.mk (some 4) none (.pure (.mv (.c (.b false)))))]) .ret))))
def fn50 : AFn := (AFn.mk 14 [(.t 4)] (.seq (.ops [
  (.mk (some 4) none (.pure (.mv (.c (.b false)))))]) (.seq (.ops [
  (.mk (some 5) none (.pure (.mv (.t 1)))), 
  (.mk (some 6) none (.pure (.neg (.t 5)))), 
  (.mk (some 7) none (.pure (.mv (.t 0)))), 
  (.mk (some 8) none (.pure (.bin .leq (.t 6) (.t 7)))), 
  (.mk (some 9) none (.pure (.mv (.t 8)))), 
  (.mk (some 10) (some (9, true)) (.pure (.mv (.t 0)))), 
  (.mk (some 11) (some (9, true)) (.pure (.mv (.t 1)))), 
  (.mk (some 12) (some (9, true)) (.pure (.bin .leq (.t 10) (.t 11)))), 
  (.mk (some 13) none (.pure (.pick (.t 9) (.t 12) (.c (.b false))))), 
  (.mk (some 4) none (.pure (.mv (.t 13))))]) .ret)))
def fn51 : AFn := (AFn.mk 21 [(.t 4)] (.seq (.ops [
  (.mk (some 4) none (.pure (.mv (.c (.i .i64 0)))))]) (.seq (.ops [
  (.mk (some 9) none (.pure (.mv (.t 0)))), 
  (.mk (some 10) none (.pure (.mv (.t 1)))), 
  (.mk (some 11) none (.call 16 [(.t 9), (.t 10)])), 
  (.mk (some 8) none (.pure (.mv (.t 11)))), 
  (.mk (some 12) none (.pure (.ext 0 (.t 8)))), 
  (.mk (some 13) none (.pure (.ext 1 (.t 8)))), 
  (.mk (some 14) none (.pure (.ext 2 (.t 8)))), 
  (.mk (some 5) none (.pure (.mv (.t 12)))), 
  (.mk (some 6) none (.pure (.mv (.t 13)))), 
  (.mk (some 7) none (.pure (.mv (.t 14))))]) (.seq (.ops [
  (.mk (some 15) none (.pure (.mv (.t 7))))]) (.block 0 (.seq (.ops [
  (.mk (some 18) none (.pure (.bin .eql (.t 15) (.c (.i .i64 0))))), 
  (.mk (some 17) none (.pure (.mv (.t 18))))]) (.cond (.t 17) (.seq (.ops [
  (.mk (some 4) none (.pure (.mv (.c (.i .i64 5)))))]) .ret) (.seq (.ops [
  (.mk (some 20) none (.pure (.bin .eql (.t 15) (.c (.i .i64 10))))), 
  (.mk (some 19) none (.pure (.mv (.t 20))))]) (.cond (.t 19) (.seq (.ops [
  (.mk (some 4) none (.pure (.mv (.c (.i .i64 0)))))]) .ret) (.seq (.ops [
  (.mk (some 16) none (.pure (.mv (.t 7)))), 
  (.mk (some 4) none (.pure (.mv (.t 16))))]) .ret))))))))))
def fn52 : AFn := (AFn.mk 32 [(.t 4)] (.seq (.ops [
  (.mk (some 4) none (.pure (.mv (.c (.b false)))))]) (.seq (.ops [
  (.mk (some 5) none (.pure (.mv (.c (.i .i64 0)))))]) (.seq (.seq (.ops [
  (.mk (some 8) none (.pure (.mv (.t 1)))), 
  (.mk (some 9) none (.pure (.len false (.t 8)))), 
  (.mk (some 10) none (.pure (.mv (.c (.i .i64 0)))))]) (.block 0 (.loop (.seq (.ops [
  (.mk (some 11) none (.pure (.bin .lss (.t 10) (.t 9))))]) (.seq (.cond (.t 11) .skip (.exit 0)) (.seq (.block 1 (.seq (.ops [
  (.mk (some 12) none (.pure (.ixS 1 (.t 8) (.t 10)))), 
  (.mk (some 13) none (.ld true 1 (.t 12))), 
  (.mk (some 7) none (.pure (.mv (.t 13))))]) (.seq (.seq (.ops [
  (.mk (some 14) none (.pure (.mv (.t 0)))), 
  (.mk (some 15) none (.pure (.mv (.t 7)))), 
  (.mk (some 16) none (.call 91 [(.t 14), (.t 15)])), 
  (.mk (some 17) none (.pure (.not (.t 16)))), 
  (.mk (some 18) none (.pure (.mv (.t 17)))), 
  (.mk (some 19) (some (18, false)) (.pure (.mv (.t 5)))), 
  (.mk (some 20) (some (18, false)) (.pure (.mv (.t 7)))), 
  (.mk (some 21) (some (18, false)) (.call 60 [(.t 19), (.t 20)])), 
  (.mk (some 22) none (.pure (.pick (.t 18) (.c (.b true)) (.t 21))))]) (.cond (.t 22) (.seq (.ops [
  (.mk (some 4) none (.pure (.mv (.c (.b false)))))]) .ret) .skip)) (.ops [
  (.mk (some 23) none (.pure (.mv (.t 5)))), 
  (.mk (some 24) none (.pure (.mv (.t 7)))), 
  (.mk (some 25) none (.pure (.bin .shl (.c (.i .i64 1)) (.t 24)))), 
  (.mk (some 26) none (.pure (.bin .or (.t 23) (.t 25)))), 
  (.mk (some 5) none (.pure (.mv (.t 26))))])))) (.ops [
  (.mk (some 27) none (.pure (.bin .add (.t 10) (.c (.i .i64 1))))), 
  (.mk (some 10) none (.pure (.mv (.t 27))))]))))))) (.seq (.ops [
  (.mk (some 28) none (.pure (.mv (.t 1)))), 
  (.mk (some 29) none (.pure (.len false (.t 28)))), 
  (.mk (some 30) none (.pure (.mv (.t 0)))), 
  (.mk (some 31) none (.pure (.bin .eql (.t 29) (.t 30)))), 
  (.mk (some 4) none (.pure (.mv (.t 31))))]) .ret)))))
def fn53 : AFn := (AFn.mk 38 [(.t 4)] (.seq (.ops [
  (.mk (some 4) none (.pure (.mv (.c .nsl))))]) (.seq (.ops [
  (.mk (some 10) none (.pure (.mv (.t 1)))), 
  (.mk (some 11) none (.pure (.len false (.t 10)))), 
  (.mk (some 12) none (.mk 3 1 8 [(.i .i64 0)] (.t 11) (.t 11))), 
  (.mk (some 5) none (.pure (.mv (.t 12))))]) (.seq (.ops [
  (.mk (some 6) none (.pure (.mv (.c (.i .i64 0)))))]) (.seq (.seq (.ops [
  (.mk (some 13) none (.pure (.mv (.t 1)))), 
  (.mk (some 14) none (.pure (.len false (.t 13)))), 
  (.mk (some 15) none (.pure (.mv (.c (.i .i64 0)))))]) (.block 0 (.loop (.seq (.ops [
  (.mk (some 16) none (.pure (.bin .lss (.t 15) (.t 14))))]) (.seq (.cond (.t 16) .skip (.exit 0)) (.seq (.block 1 (.seq (.ops [
  (.mk (some 17) none (.pure (.ixS 1 (.t 13) (.t 15)))), 
  (.mk (some 18) none (.ld true 1 (.t 17))), 
  (.mk (some 8) none (.pure (.mv (.t 18))))]) (.seq (.ops [
  (.mk (some 19) none (.pure (.mv (.t 0)))), 
  (.mk (some 20) none (.pure (.mv (.t 6)))), 
  (.mk (some 21) none (.pure (.ixS 1 (.t 19) (.t 20)))), 
  (.mk (some 22) none (.ld true 1 (.t 21))), 
  (.mk (some 9) none (.pure (.mv (.t 22))))]) (.seq (.ops [
  (.mk (some 23) none (.pure (.mv (.t 6)))), 
  (.mk (some 24) none (.pure (.mv (.t 8)))), 
  (.mk (some 25) none (.pure (.bin .shl (.c (.i .i64 1)) (.t 24)))), 
  (.mk (some 26) none (.pure (.bin .or (.t 23) (.t 25)))), 
  (.mk (some 6) none (.pure (.mv (.t 26))))]) (.ops [
  (.mk (some 27) none (.pure (.mv (.t 5)))), 
  (.mk (some 28) none (.pure (.mv (.t 8)))), 
  (.mk (some 29) none (.pure (.mv (.t 0)))), 
  (.mk (some 30) none (.pure (.mv (.t 6)))), 
  (.mk (some 31) none (.pure (.ixS 1 (.t 29) (.t 30)))), 
  (.mk (some 32) none (.ld true 1 (.t 31))), 
  (.mk (some 33) none (.pure (.mv (.t 9)))), 
  (.mk (some 34) none (.pure (.bin .sub (.t 32) (.t 33)))), 
  (.mk (some 35) none (.pure (.ixS 1 (.t 27) (.t 28)))), 
  (.mk none none (.st 1 (.t 35) (.t 34)))]))))) (.ops [
  (.mk (some 36) none (.pure (.bin .add (.t 15) (.c (.i .i64 1))))), 
  (.mk (some 15) none (.pure (.mv (.t 36))))]))))))) (.seq (.ops [
  (.mk (some 37) none (.pure (.mv (.t 5)))), 
  (.mk (some 4) none (.pure (.mv (.t 37))))]) .ret))))))
def fn60 : AFn := (AFn.mk 10 [(.t 4)] (.seq (.ops [
  (.mk (some 4) none (.pure (.mv (.c (.b false)))))]) (.seq (.ops [
  (.mk (some 5) none (.pure (.mv (.t 0)))), 
  (.mk (some 6) none (.pure (.mv (.t 1)))), 
  (.mk (some 7) none (.pure (.bin .shr (.t 5) (.t 6)))), 
  (.mk (some 8) none (.pure (.bin .and (.t 7) (.c (.i .i64 1))))), 
  (.mk (some 9) none (.pure (.bin .eql (.t 8) (.c (.i .i64 1))))), 
  (.mk (some 4) none (.pure (.mv (.t 9))))]) .ret)))
def fn65 : AFn := (AFn.mk 13 [(.t 4)] (.seq (.ops [
  (.mk (some 4) none (.pure (.mv (.c (.b false)))))]) (.seq (.ops [
  (.mk (some 5) none (.pure (.mv (.t 1)))), 
  (.mk (some 6) none (.pure (.len false (.t 5)))), 
  (.mk (some 7) none (.pure (.mv (.t 0)))), 
  (.mk (some 8) none (.pure (.bin .eql (.t 6) (.t 7)))), 
  (.mk (some 9) none (.pure (.mv (.t 8)))), 
  (.mk (some 10) (some (9, true)) (.pure (.mv (.t 1)))), 
  (.mk (some 11) (some (9, true)) (.call 87 [(.t 10), (.c (.i .i64 6000000))])), 
  (.mk (some 12) none (.pure (.pick (.t 9) (.t 11) (.c (.b false))))), 
  (.mk (some 4) none (.pure (.mv (.t 12))))]) .ret)))
def fn66 : AFn := (AFn.mk 6 [(.t 4)] (.seq (.ops [
  (.mk (some 2) none (.bx 22 1 (.t 0))), 
  (.mk (some 3) none (.bx 22 1 (.t 1))), 
  (.mk (some 4) none (.pure (.mv (.c .nfn))))]) (.seq (.ops [
  (.mk (some 5) none (.pure (.mkfn 95 [] [(.t 3), (.t 2)]))), 
  (.mk (some 4) none (.pure (.mv (.t 5))))]) .ret)))
def fn67 : AFn := (AFn.mk 23 [(.t 4)] (.seq (.ops [
  (.mk (some 4) none (.pure (.mv (.c (.i .i64 0)))))]) (.seq (.ops [
  (.mk (some 5) none (.pure (.mv (.c (.i .i64 0)))))]) (.seq (.seq (.ops [
  (.mk (some 8) none (.pure (.mv (.t 0)))), 
  (.mk (some 9) none (.pure (.len false (.t 8)))), 
  (.mk (some 10) none (.pure (.mv (.c (.i .i64 0)))))]) (.block 0 (.loop (.seq (.ops [
  (.mk (some 11) none (.pure (.bin .lss (.t 10) (.t 9))))]) (.seq (.cond (.t 11) .skip (.exit 0)) (.seq (.block 1 (.seq (.ops [
  (.mk (some 12) none (.pure (.mv (.t 10)))), 
  (.mk (some 13) none (.pure (.ixS 1 (.t 8) (.t 10)))), 
  (.mk (some 14) none (.ld true 1 (.t 13))), 
  (.mk (some 6) none (.pure (.mv (.t 12)))), 
  (.mk (some 7) none (.pure (.mv (.t 14))))]) (.seq (.ops [
  (.mk (some 15) none (.pure (.mv (.t 1)))), 
  (.mk (some 16) none (.pure (.mv (.t 6)))), 
  (.mk (some 17) none (.call 60 [(.t 15), (.t 16)]))]) (.cond (.t 17) (.ops [
  (.mk (some 18) none (.pure (.mv (.t 5)))), 
  (.mk (some 19) none (.pure (.mv (.t 7)))), 
  (.mk (some 20) none (.pure (.bin .add (.t 18) (.t 19)))), 
  (.mk (some 5) none (.pure (.mv (.t 20))))]) .skip)))) (.ops [
  (.mk (some 21) none (.pure (.bin .add (.t 10) (.c (.i .i64 1))))), 
  (.mk (some 10) none (.pure (.mv (.t 21))))]))))))) (.seq (.ops [
  (.mk (some 22) none (.pure (.mv (.t 5)))), 
  (.mk (some 4) none (.pure (.mv (.t 22))))]) .ret)))))
def fn70 : AFn := (AFn.mk 28 [(.t 4)] (.seq (.ops [
  (.mk (some 4) none (.pure (.mv (.c (.i .i64 0)))))]) (.seq (.ops [
  (.mk (some 8) none (.pure (.mv (.t 0)))), 
  (.mk (some 9) none (.pure (.mv (.t 1)))), 
  (.mk (some 10) none (.pure (.ixS 1 (.t 9) (.c (.i .i64 0))))), 
  (.mk (some 11) none (.ld true 1 (.t 10))), 
  (.mk (some 12) none (.pure (.ixS 1 (.t 8) (.t 11)))), 
  (.mk (some 13) none (.ld true 1 (.t 12))), 
  (.mk (some 5) none (.pure (.mv (.t 13))))]) (.seq (.seq (.ops [
  (.mk (some 14) none (.pure (.mv (.t 1)))), 
  (.mk (some 15) none (.pure (.len false (.t 14)))), 
  (.mk (some 16) none (.pure (.mv (.c (.i .i64 0)))))]) (.block 0 (.loop (.seq (.ops [
  (.mk (some 17) none (.pure (.bin .lss (.t 16) (.t 15))))]) (.seq (.cond (.t 17) .skip (.exit 0)) (.seq (.block 1 (.seq (.ops [
  (.mk (some 18) none (.pure (.ixS 1 (.t 14) (.t 16)))), 
  (.mk (some 19) none (.ld true 1 (.t 18))), 
  (.mk (some 7) none (.pure (.mv (.t 19))))]) (.ops [
  (.mk (some 20) none (.pure (.mv (.t 5)))), 
  (.mk (some 21) none (.pure (.mv (.t 0)))), 
  (.mk (some 22) none (.pure (.mv (.t 7)))), 
  (.mk (some 23) none (.pure (.ixS 1 (.t 21) (.t 22)))), 
  (.mk (some 24) none (.ld true 1 (.t 23))), 
  (.mk (some 25) none (.pure (.mx false (.t 20) (.t 24)))), 
  (.mk (some 5) none (.pure (.mv (.t 25))))]))) (.ops [
  (.mk (some 26) none (.pure (.bin .add (.t 16) (.c (.i .i64 1))))), 
  (.mk (some 16) none (.pure (.mv (.t 26))))]))))))) (.seq (.ops [
  (.mk (some 27) none (.pure (.mv (.t 5)))), 
  (.mk (some 4) none (.pure (.mv (.t 27))))]) .ret)))))
def fn71 : AFn := (AFn.mk 6 [(.t 4)] (.seq (.ops [
  (.mk (some 2) none (.bx 22 1 (.t 0))), 
  (.mk (some 3) none (.bx 3 1 (.t 1))), 
  (.mk (some 4) none (.pure (.mv (.c .nfn))))]) (.seq (.ops [
  (.mk (some 5) none (.pure (.mkfn 97 [] [(.t 2), (.t 3)]))), 
  (.mk (some 4) none (.pure (.mv (.t 5))))]) .ret)))
def fn73 : AFn := (AFn.mk 4 [(.t 2)] (.seq (.ops [
  (.mk (some 1) none (.bx 3 1 (.t 0))), 
  (.mk (some 2) none (.pure (.mv (.c .nfn))))]) (.seq (.ops [
  (.mk (some 3) none (.pure (.mkfn 98 [] [(.t 1)]))), 
  (.mk (some 2) none (.pure (.mv (.t 3))))]) .ret)))
def fn74 : AFn := (AFn.mk 4 [(.t 2)] (.seq (.ops [
  (.mk (some 1) none (.bx 3 1 (.t 0))), 
  (.mk (some 2) none (.pure (.mv (.c .nfn))))]) (.seq (.ops [
  (.mk (some 3) none (.pure (.mkfn 99 [] [(.t 1)]))), 
  (.mk (some 2) none (.pure (.mv (.t 3))))]) .ret)))
def fn75 : AFn := (AFn.mk 21 [(.t 2)] (.seq (.ops [
  (.mk (some 2) none (.pure (.mv (.c .nsl))))]) (.seq (.ops [
  (.mk (some 5) none (.pure (.mv (.t 0)))), 
  (.mk (some 6) none (.mk 3 1 8 [(.i .i64 0)] (.t 5) (.t 5))), 
  (.mk (some 3) none (.pure (.mv (.t 6))))]) (.seq (.seq (.ops [
  (.mk (some 7) none (.pure (.mv (.t 3)))), 
  (.mk (some 8) none (.pure (.len false (.t 7)))), 
  (.mk (some 9) none (.pure (.mv (.c (.i .i64 0)))))]) (.block 0 (.loop (.seq (.ops [
  (.mk (some 10) none (.pure (.bin .lss (.t 9) (.t 8))))]) (.seq (.cond (.t 10) .skip (.exit 0)) (.seq (.block 1 (.seq (.ops [
  (.mk (some 11) none (.pure (.mv (.t 9)))), 
  (.mk (some 4) none (.pure (.mv (.t 11))))]) (.ops [
  (.mk (some 12) none (.pure (.mv (.t 3)))), 
  (.mk (some 13) none (.pure (.mv (.t 4)))), 
  (.mk (some 14) none (.pure (.mv (.t 0)))), 
  (.mk (some 15) none (.pure (.bin .sub (.t 14) (.c (.i .i64 1))))), 
  (.mk (some 16) none (.pure (.mv (.t 4)))), 
  (.mk (some 17) none (.pure (.bin .sub (.t 15) (.t 16)))), 
  (.mk (some 18) none (.pure (.ixS 1 (.t 12) (.t 13)))), 
  (.mk none none (.st 1 (.t 18) (.t 17)))]))) (.ops [
  (.mk (some 19) none (.pure (.bin .add (.t 9) (.c (.i .i64 1))))), 
  (.mk (some 9) none (.pure (.mv (.t 19))))]))))))) (.seq (.ops [
  (.mk (some 20) none (.pure (.mv (.t 3)))), 
  (.mk (some 2) none (.pure (.mv (.t 20))))]) .ret)))))
def fn78 : AFn := (AFn.mk 24 [(.t 4)] (.seq (.ops [
  (.mk (some 4) none (.pure (.mv (.c (.b false)))))]) (.seq (.seq (.ops [
  (.mk (some 7) none (.pure (.mv (.t 1)))), 
  (.mk (some 8) none (.pure (.len false (.t 7)))), 
  (.mk (some 9) none (.pure (.mv (.c (.i .i64 0)))))]) (.block 0 (.loop (.seq (.ops [
  (.mk (some 10) none (.pure (.bin .lss (.t 9) (.t 8))))]) (.seq (.cond (.t 10) .skip (.exit 0)) (.seq (.block 1 (.seq (.ops [
  (.mk (some 11) none (.pure (.ixS 1 (.t 7) (.t 9)))), 
  (.mk (some 12) none (.ld true 1 (.t 11))), 
  (.mk (some 6) none (.pure (.mv (.t 12))))]) (.seq (.ops [
  (.mk (some 13) none (.pure (.mv (.t 6)))), 
  (.mk (some 14) none (.pure (.bin .lss (.t 13) (.c (.i .i64 0))))), 
  (.mk (some 15) none (.pure (.mv (.t 14)))), 
  (.mk (some 16) (some (15, false)) (.pure (.mv (.t 6)))), 
  (.mk (some 17) (some (15, false)) (.pure (.bin .gtr (.t 16) (.c (.i .i64 1000))))), 
  (.mk (some 18) none (.pure (.pick (.t 15) (.c (.b true)) (.t 17))))]) (.cond (.t 18) (.seq (.ops [
  (.mk (some 4) none (.pure (.mv (.c (.b false)))))]) .ret) .skip)))) (.ops [
  (.mk (some 19) none (.pure (.bin .add (.t 9) (.c (.i .i64 1))))), 
  (.mk (some 9) none (.pure (.mv (.t 19))))]))))))) (.seq (.ops [
  (.mk (some 20) none (.pure (.mv (.t 1)))), 
  (.mk (some 21) none (.pure (.len false (.t 20)))), 
  (.mk (some 22) none (.pure (.mv (.t 0)))), 
  (.mk (some 23) none (.pure (.bin .eql (.t 21) (.t 22)))), 
  (.mk (some 4) none (.pure (.mv (.t 23))))]) .ret))))
def fn79 : AFn := (AFn.mk 25 [(.t 2)] (.seq (.ops [
  (.mk (some 2) none (.pure (.mv (.c (.i .i64 0)))))]) (.seq (.seq (.ops [
  (.mk (some 5) none (.pure (.mv (.t 0)))), 
  (.mk (some 6) none (.pure (.len false (.t 5)))), 
  (.mk (some 7) none (.pure (.bin .lss (.t 6) (.c (.i .i64 1)))))]) (.cond (.t 7) (.ops [
  (.mk none none (.ld true 1 (.c (.b true))))]) .skip)) (.seq (.ops [
  (.mk (some 9) none (.pure (.mv (.t 0)))), 
  (.mk (some 10) none (.pure (.ixS 1 (.t 9) (.c (.i .i64 0))))), 
  (.mk (some 11) none (.ld true 1 (.t 10))), 
  (.mk (some 3) none (.pure (.mv (.t 11))))]) (.seq (.seq (.ops [
  (.mk (some 4) none (.pure (.mv (.c (.i .i64 1)))))]) (.block 0 (.loop (.seq (.seq (.ops [
  (.mk (some 12) none (.pure (.mv (.t 4)))), 
  (.mk (some 13) none (.pure (.mv (.t 0)))), 
  (.mk (some 14) none (.pure (.len false (.t 13)))), 
  (.mk (some 15) none (.pure (.bin .lss (.t 12) (.t 14))))]) (.cond (.t 15) .skip (.exit 0))) (.seq (.block 1 (.ops [
  (.mk (some 18) none (.pure (.mv (.t 3)))), 
  (.mk (some 19) none (.pure (.mv (.t 0)))), 
  (.mk (some 20) none (.pure (.mv (.t 4)))), 
  (.mk (some 21) none (.pure (.ixS 1 (.t 19) (.t 20)))), 
  (.mk (some 22) none (.ld true 1 (.t 21))), 
  (.mk (some 23) none (.pure (.mx true (.t 18) (.t 22)))), 
  (.mk (some 3) none (.pure (.mv (.t 23))))])) (.ops [
  (.mk (some 16) none (.pure (.mv (.t 4)))), 
  (.mk (some 17) none (.pure (.bin .add (.t 16) (.c (.i .i64 1))))), 
  (.mk (some 4) none (.pure (.mv (.t 17))))])))))) (.seq (.ops [
  (.mk (some 24) none (.pure (.mv (.t 3)))), 
  (.mk (some 2) none (.pure (.mv (.t 24))))]) .ret))))))
def fn80 : AFn := (AFn.mk 24 [(.t 4)] (.seq (.ops [
  (.mk (some 4) none (.pure (.mv (.c (.i .i64 0)))))]) (.seq (.ops [
  (.mk (some 5) none (.pure (.mv (.c (.i .i64 0)))))]) (.seq (.seq (.ops [
  (.mk (some 8) none (.pure (.mv (.t 0)))), 
  (.mk (some 9) none (.pure (.len false (.t 8)))), 
  (.mk (some 10) none (.pure (.mv (.c (.i .i64 0)))))]) (.block 0 (.loop (.seq (.ops [
  (.mk (some 11) none (.pure (.bin .lss (.t 10) (.t 9))))]) (.seq (.cond (.t 11) .skip (.exit 0)) (.seq (.block 1 (.seq (.ops [
  (.mk (some 12) none (.pure (.mv (.t 10)))), 
  (.mk (some 13) none (.pure (.ixS 1 (.t 8) (.t 10)))), 
  (.mk (some 14) none (.ld true 1 (.t 13))), 
  (.mk (some 6) none (.pure (.mv (.t 12)))), 
  (.mk (some 7) none (.pure (.mv (.t 14))))]) (.seq (.ops [
  (.mk (some 15) none (.pure (.mv (.t 7)))), 
  (.mk (some 16) none (.pure (.mv (.t 1)))), 
  (.mk (some 17) none (.pure (.bin .geq (.t 15) (.t 16))))]) (.cond (.t 17) (.ops [
  (.mk (some 18) none (.pure (.mv (.t 5)))), 
  (.mk (some 19) none (.pure (.mv (.t 6)))), 
  (.mk (some 20) none (.pure (.bin .shl (.c (.i .i64 1)) (.t 19)))), 
  (.mk (some 21) none (.pure (.bin .or (.t 18) (.t 20)))), 
  (.mk (some 5) none (.pure (.mv (.t 21))))]) .skip)))) (.ops [
  (.mk (some 22) none (.pure (.bin .add (.t 10) (.c (.i .i64 1))))), 
  (.mk (some 10) none (.pure (.mv (.t 22))))]))))))) (.seq (.ops [
  (.mk (some 23) none (.pure (.mv (.t 5)))), 
  (.mk (some 4) none (.pure (.mv (.t 23))))]) .ret)))))
def fn81 : AFn := (AFn.mk 9 [] (.ops [
  (.mk (some 4) none (.pure (.mv (.t 0)))), 
  (.mk (some 5) none (.pure (.mv (.t 0)))), 
  (.mk (some 6) none (.pure (.len false (.t 5)))), 
  (.mk (some 7) none (.pure (.mv (.t 1)))), 
  (.mk (some 8) none (.call 100 [(.t 4), (.t 6), (.t 7)]))]))
def fn82 : AFn := (AFn.mk 15 [(.t 5)] (.seq (.ops [
  (.mk (some 5) none (.pure (.mv (.c (.i .i64 0)))))]) (.seq (.flt [(
  (.mk (some 6) none (.ld true 1 (.t 2))), false), (
  (.mk (some 7) none (.pure (.mv (.t 1)))), false), (
  (.mk (some 8) none (.pure (.ixS 1 (.t 6) (.t 7)))), false), (
  (.mk (some 9) none (.ld true 1 (.t 8))), false), (
  (.mk (some 10) none (.ld true 1 (.t 2))), false), (
  (.mk (some 11) none (.pure (.mv (.t 0)))), false), (
  (.mk (some 12) none (.pure (.ixS 1 (.t 10) (.t 11)))), false), (
  (.mk (some 13) none (.ld true 1 (.t 12))), false), (
  (.mk (some 14) none (.call 83 [(.t 9), (.t 13)])), false), (
  (.mk (some 5) none (.pure (.mv (.t 14)))), false)]) .ret)))
def fn83 : AFn := (AFn.mk 20 [(.t 4)] (.seq (.ops [
  (.mk (some 4) none (.pure (.mv (.c (.i .i64 0)))))]) (.seq (.ops [
  (.mk (some 7) none (.pure (.mv (.t 0)))), 
  (.mk (some 8) none (.call 101 [(.t 7)])), 
  (.mk (some 5) none (.pure (.mv (.t 8))))]) (.seq (.ops [
  (.mk (some 9) none (.pure (.mv (.t 1)))), 
  (.mk (some 10) none (.call 101 [(.t 9)])), 
  (.mk (some 6) none (.pure (.mv (.t 10))))]) (.seq (.seq (.ops [
  (.mk (some 11) none (.pure (.mv (.t 5))))]) (.cond (.t 11) (.seq (.seq (.ops [
  (.mk (some 12) none (.pure (.mv (.t 6))))]) (.cond (.t 12) (.seq (.ops [
  (.mk (some 4) none (.pure (.mv (.c (.i .i64 0)))))]) .ret) .skip)) (.seq (.ops [
  (.mk (some 4) none (.pure (.mv (.c (.i .i64 (-1))))))]) .ret)) .skip)) (.seq (.seq (.ops [
  (.mk (some 13) none (.pure (.mv (.t 6))))]) (.cond (.t 13) (.seq (.ops [
  (.mk (some 4) none (.pure (.mv (.c (.i .i64 1)))))]) .ret) .skip)) (.seq (.seq (.ops [
  (.mk (some 14) none (.pure (.mv (.t 0)))), 
  (.mk (some 15) none (.pure (.mv (.t 1)))), 
  (.mk (some 16) none (.pure (.bin .lss (.t 14) (.t 15))))]) (.cond (.t 16) (.seq (.ops [
  (.mk (some 4) none (.pure (.mv (.c (.i .i64 (-1))))))]) .ret) .skip)) (.seq (.seq (.ops [
  (.mk (some 17) none (.pure (.mv (.t 0)))), 
  (.mk (some 18) none (.pure (.mv (.t 1)))), 
  (.mk (some 19) none (.pure (.bin .gtr (.t 17) (.t 18))))]) (.cond (.t 19) (.seq (.ops [
  (.mk (some 4) none (.pure (.mv (.c (.i .i64 1)))))]) .ret) .skip)) (.seq (.ops [
  (.mk (some 4) none (.pure (.mv (.c (.i .i64 0)))))]) .ret)))))))))
def fn84 : AFn := (AFn.mk 9 [(.t 2)] (.seq (.ops [
  (.mk (some 2) none (.pure (.mv (.c (.b false)))))]) (.seq (.ops [
  (.mk (some 3) none (.pure (.mv (.t 0)))), 
  (.mk (some 4) none (.pure (.bin .leq (.c (.i .i64 1)) (.t 3)))), 
  (.mk (some 5) none (.pure (.mv (.t 4)))), 
  (.mk (some 6) (some (5, true)) (.pure (.mv (.t 0)))), 
  (.mk (some 7) (some (5, true)) (.pure (.bin .leq (.t 6) (.c (.i .i64 6))))), 
  (.mk (some 8) none (.pure (.pick (.t 5) (.t 7) (.c (.b false))))), 
  (.mk (some 2) none (.pure (.mv (.t 8))))]) .ret)))
def fn87 : AFn := (AFn.mk 18 [(.t 4)] (.seq (.ops [
  (.mk (some 4) none (.pure (.mv (.c (.b false)))))]) (.seq (.seq (.ops [
  (.mk (some 7) none (.pure (.mv (.t 0)))), 
  (.mk (some 8) none (.pure (.len false (.t 7)))), 
  (.mk (some 9) none (.pure (.mv (.c (.i .i64 0)))))]) (.block 0 (.loop (.seq (.ops [
  (.mk (some 10) none (.pure (.bin .lss (.t 9) (.t 8))))]) (.seq (.cond (.t 10) .skip (.exit 0)) (.seq (.block 1 (.seq (.ops [
  (.mk (some 11) none (.pure (.ixS 1 (.t 7) (.t 9)))), 
  (.mk (some 12) none (.ld true 1 (.t 11))), 
  (.mk (some 6) none (.pure (.mv (.t 12))))]) (.seq (.ops [
  (.mk (some 13) none (.pure (.mv (.t 6)))), 
  (.mk (some 14) none (.pure (.mv (.t 1)))), 
  (.mk (some 15) none (.call 50 [(.t 13), (.t 14)])), 
  (.mk (some 16) none (.pure (.not (.t 15))))]) (.cond (.t 16) (.seq (.ops [
  (.mk (some 4) none (.pure (.mv (.c (.b false)))))]) .ret) .skip)))) (.ops [
  (.mk (some 17) none (.pure (.bin .add (.t 9) (.c (.i .i64 1))))), 
  (.mk (some 9) none (.pure (.mv (.t 17))))]))))))) (.seq (.ops [
  (.mk (some 4) none (.pure (.mv (.c (.b true)))))]) .ret))))
def fn88 : AFn := (AFn.mk 18 [(.t 4)] (.seq (.ops [
  (.mk (some 4) none (.pure (.mv (.c (.b false)))))]) (.seq (.seq (.ops [
  (.mk (some 7) none (.pure (.mv (.t 1)))), 
  (.mk (some 8) none (.pure (.len false (.t 7)))), 
  (.mk (some 9) none (.pure (.mv (.c (.i .i64 0)))))]) (.block 0 (.loop (.seq (.ops [
  (.mk (some 10) none (.pure (.bin .lss (.t 9) (.t 8))))]) (.seq (.cond (.t 10) .skip (.exit 0)) (.seq (.block 1 (.seq (.ops [
  (.mk (some 11) none (.pure (.ixS 1 (.t 7) (.t 9)))), 
  (.mk (some 12) none (.ld true 1 (.t 11))), 
  (.mk (some 6) none (.pure (.mv (.t 12))))]) (.seq (.opsY [
  (.mk (some 13) none (.pure (.mv (.t 6)))), 
  (.mk (some 14) none (.pure (.mv (.t 0)))), 
  (.mk (some 15) none (.callv (.t 13) [(.t 14)])), 
  (.mk (some 16) none (.pure (.not (.t 15))))]) (.cond (.t 16) (.seq (.ops [
  (.mk (some 4) none (.pure (.mv (.c (.b false)))))]) .ret) .skip)))) (.ops [
  (.mk (some 17) none (.pure (.bin .add (.t 9) (.c (.i .i64 1))))), 
  (.mk (some 9) none (.pure (.mv (.t 17))))]))))))) (.seq (.ops [
  (.mk (some 4) none (.pure (.mv (.c (.b true)))))]) .ret))))
def fn89 : AFn := (AFn.mk 7 [(.t 3)] (.seq (.ops [
  (.mk (some 3) none (.pure (.mv (.c (.b false)))))]) (.seq (.ops [
  (.mk (some 4) none (.pure (.mv (.t 0)))), 
  (.mk (some 5) none (.ld true 1 (.t 1))), 
  (.mk (some 6) none (.pure (.bin .gtr (.t 4) (.t 5)))), 
  (.mk (some 3) none (.pure (.mv (.t 6))))]) .ret)))
def fn90 : AFn := (AFn.mk 28 [(.t 4)] (.seq (.ops [
  (.mk (some 4) none (.pure (.mv (.c (.b false)))))]) (.seq (.any [(
  (.mk (some 5) none (.ld true 1 (.t 1))), false), (
  (.mk (some 6) none (.ld true 1 (.t 2))), false), (
  (.mk (some 7) none (.pure (.ixS 1 (.t 5) (.t 6)))), false), (
  (.mk (some 8) none (.ld true 1 (.t 7))), false), (
  (.mk (some 9) none (.ld true 1 (.t 1))), false), (
  (.mk (some 10) none (.pure (.mv (.t 0)))), false), (
  (.mk (some 11) none (.pure (.ixS 1 (.t 9) (.t 10)))), false), (
  (.mk (some 12) none (.ld true 1 (.t 11))), false), (
  (.mk (some 13) none (.pure (.bin .add (.t 8) (.t 12)))), false), (
  (.mk (some 14) none (.ld true 1 (.t 1))), false), (
  (.mk (some 15) none (.ld true 1 (.t 2))), false), (
  (.mk (some 16) none (.pure (.mv (.t 0)))), false), (
  (.mk (some 17) none (.pure (.bin .or (.t 15) (.t 16)))), false), (
  (.mk (some 18) none (.pure (.ixS 1 (.t 14) (.t 17)))), false), (
  (.mk (some 19) none (.ld true 1 (.t 18))), false), (
  (.mk (some 20) none (.ld true 1 (.t 1))), false), (
  (.mk (some 21) none (.ld true 1 (.t 2))), false), (
  (.mk (some 22) none (.pure (.mv (.t 0)))), false), (
  (.mk (some 23) none (.pure (.bin .and (.t 21) (.t 22)))), false), (
  (.mk (some 24) none (.pure (.ixS 1 (.t 20) (.t 23)))), false), (
  (.mk (some 25) none (.ld true 1 (.t 24))), false), (
  (.mk (some 26) none (.pure (.bin .add (.t 19) (.t 25)))), false), (
  (.mk (some 27) none (.pure (.bin .lss (.t 13) (.t 26)))), false), (
  (.mk (some 4) none (.pure (.mv (.t 27)))), false)]) .ret)))
def fn91 : AFn := (AFn.mk 12 [(.t 4)] (.seq (.ops [
  (.mk (some 4) none (.pure (.mv (.c (.b false)))))]) (.seq (.ops [
  (.mk (some 5) none (.pure (.mv (.t 1)))), 
  (.mk (some 6) none (.pure (.bin .leq (.c (.i .i64 0)) (.t 5)))), 
  (.mk (some 7) none (.pure (.mv (.t 6)))), 
  (.mk (some 8) (some (7, true)) (.pure (.mv (.t 1)))), 
  (.mk (some 9) (some (7, true)) (.pure (.mv (.t 0)))), 
  (.mk (some 10) (some (7, true)) (.pure (.bin .lss (.t 8) (.t 9)))), 
  (.mk (some 11) none (.pure (.pick (.t 7) (.t 10) (.c (.b false))))), 
  (.mk (some 4) none (.pure (.mv (.t 11))))]) .ret)))
def fn95 : AFn := (AFn.mk 13 [(.t 4)] (.seq (.ops [
  (.mk (some 4) none (.pure (.mv (.c (.b false)))))]) (.seq (.flt [(
  (.mk (some 5) none (.ld true 1 (.t 1))), false), (
  (.mk (some 6) none (.pure (.mv (.t 0)))), false), (
  (.mk (some 7) none (.call 67 [(.t 5), (.t 6)])), false), (
  (.mk (some 8) none (.ld true 1 (.t 2))), true), (
  (.mk (some 9) none (.pure (.mv (.t 0)))), false), (
  (.mk (some 10) none (.pure (.ixS 1 (.t 8) (.t 9)))), false), (
  (.mk (some 11) none (.ld true 1 (.t 10))), true), (
  (.mk (some 12) none (.pure (.bin .gtr (.t 7) (.t 11)))), false), (
  (.mk (some 4) none (.pure (.mv (.t 12)))), false)]) .ret)))
def fn97 : AFn := (AFn.mk 11 [(.t 4)] (.seq (.ops [
  (.mk (some 4) none (.pure (.mv (.c (.b false)))))]) (.seq (.any [(
  (.mk (some 5) none (.ld true 1 (.t 1))), false), (
  (.mk (some 6) none (.pure (.mv (.t 0)))), false), (
  (.mk (some 7) none (.pure (.ixS 1 (.t 5) (.t 6)))), false), (
  (.mk (some 8) none (.ld true 1 (.t 7))), false), (
  (.mk (some 9) none (.ld true 1 (.t 2))), false), (
  (.mk (some 10) none (.pure (.bin .eql (.t 8) (.t 9)))), false), (
  (.mk (some 4) none (.pure (.mv (.t 10)))), false)]) .ret)))
def fn98 : AFn := (AFn.mk 8 [(.t 3)] (.seq (.ops [
  (.mk (some 3) none (.pure (.mv (.c (.b false)))))]) (.seq (.ops [
  (.mk (some 4) none (.pure (.mv (.t 0)))), 
  (.mk (some 5) none (.ld true 1 (.t 1))), 
  (.mk (some 6) none (.pure (.bin .andNot (.t 4) (.t 5)))), 
  (.mk (some 7) none (.pure (.bin .eql (.t 6) (.c (.i .i64 0))))), 
  (.mk (some 3) none (.pure (.mv (.t 7))))]) .ret)))
def fn99 : AFn := (AFn.mk 8 [(.t 3)] (.seq (.ops [
  (.mk (some 3) none (.pure (.mv (.c (.b false)))))]) (.seq (.ops [
  (.mk (some 4) none (.ld true 1 (.t 1))), 
  (.mk (some 5) none (.pure (.mv (.t 0)))), 
  (.mk (some 6) none (.pure (.bin .andNot (.t 4) (.t 5)))), 
  (.mk (some 7) none (.pure (.bin .eql (.t 6) (.c (.i .i64 0))))), 
  (.mk (some 3) none (.pure (.mv (.t 7))))]) .ret)))
def fn100 : AFn := (AFn.mk 63 [] (.seq (.ops [
  (.mk (some 6) none (.pure (.mv (.c (.i .i64 20)))))]) (.seq (.ops [
  (.mk (some 10) none (.pure (.mv (.t 6)))), 
  (.mk (some 7) none (.pure (.mv (.c (.i .i64 0))))), 
  (.mk (some 8) none (.pure (.mv (.t 10))))]) (.seq (.block 0 (.loop (.seq (.seq (.ops [
  (.mk (some 11) none (.pure (.mv (.t 8)))), 
  (.mk (some 12) none (.pure (.mv (.t 1)))), 
  (.mk (some 13) none (.pure (.bin .leq (.t 11) (.t 12))))]) (.cond (.t 13) .skip (.exit 0))) (.block 1 (.seq (.ops [
  (.mk (some 14) none (.pure (.mv (.t 0)))), 
  (.mk (some 15) none (.pure (.mv (.t 7)))), 
  (.mk (some 16) none (.pure (.mv (.t 8)))), 
  (.mk (some 17) none (.pure (.mv (.t 2)))), 
  (.mk (some 18) none (.call 113 [(.t 14), (.t 15), (.t 16), (.t 17)]))]) (.seq (.ops [
  (.mk (some 19) none (.pure (.mv (.t 8)))), 
  (.mk (some 7) none (.pure (.mv (.t 19))))]) (.ops [
  (.mk (some 20) none (.pure (.mv (.t 8)))), 
  (.mk (some 21) none (.pure (.mv (.t 6)))), 
  (.mk (some 22) none (.pure (.bin .add (.t 20) (.t 21)))), 
  (.mk (some 8) none (.pure (.mv (.t 22))))]))))))) (.seq (.ops [
  (.mk (some 23) none (.pure (.mv (.t 0)))), 
  (.mk (some 24) none (.pure (.mv (.t 7)))), 
  (.mk (some 25) none (.pure (.mv (.t 1)))), 
  (.mk (some 26) none (.pure (.mv (.t 2)))), 
  (.mk (some 27) none (.call 113 [(.t 23), (.t 24), (.t 25), (.t 26)]))]) (.block 2 (.loop (.seq (.seq (.ops [
  (.mk (some 28) none (.pure (.mv (.t 6)))), 
  (.mk (some 29) none (.pure (.mv (.t 1)))), 
  (.mk (some 30) none (.pure (.bin .lss (.t 28) (.t 29))))]) (.cond (.t 30) .skip (.exit 2))) (.block 3 (.seq (.ops [
  (.mk (some 31) none (.pure (.mv (.t 6)))), 
  (.mk (some 32) none (.pure (.bin .mul (.c (.i .i64 2)) (.t 31)))), 
  (.mk (some 7) none (.pure (.mv (.c (.i .i64 0))))), 
  (.mk (some 8) none (.pure (.mv (.t 32))))]) (.seq (.block 4 (.loop (.seq (.seq (.ops [
  (.mk (some 33) none (.pure (.mv (.t 8)))), 
  (.mk (some 34) none (.pure (.mv (.t 1)))), 
  (.mk (some 35) none (.pure (.bin .leq (.t 33) (.t 34))))]) (.cond (.t 35) .skip (.exit 4))) (.block 5 (.seq (.ops [
  (.mk (some 36) none (.pure (.mv (.t 0)))), 
  (.mk (some 37) none (.pure (.mv (.t 7)))), 
  (.mk (some 38) none (.pure (.mv (.t 7)))), 
  (.mk (some 39) none (.pure (.mv (.t 6)))), 
  (.mk (some 40) none (.pure (.bin .add (.t 38) (.t 39)))), 
  (.mk (some 41) none (.pure (.mv (.t 8)))), 
  (.mk (some 42) none (.pure (.mv (.t 2)))), 
  (.mk (some 43) none (.call 114 [(.t 36), (.t 37), (.t 40), (.t 41), (.t 42)]))]) (.seq (.ops [
  (.mk (some 44) none (.pure (.mv (.t 8)))), 
  (.mk (some 7) none (.pure (.mv (.t 44))))]) (.ops [
  (.mk (some 45) none (.pure (.mv (.t 8)))), 
  (.mk (some 46) none (.pure (.mv (.t 6)))), 
  (.mk (some 47) none (.pure (.bin .mul (.c (.i .i64 2)) (.t 46)))), 
  (.mk (some 48) none (.pure (.bin .add (.t 45) (.t 47)))), 
  (.mk (some 8) none (.pure (.mv (.t 48))))]))))))) (.seq (.seq (.ops [
  (.mk (some 49) none (.pure (.mv (.t 7)))), 
  (.mk (some 50) none (.pure (.mv (.t 6)))), 
  (.mk (some 51) none (.pure (.bin .add (.t 49) (.t 50)))), 
  (.mk (some 9) none (.pure (.mv (.t 51))))]) (.seq (.ops [
  (.mk (some 52) none (.pure (.mv (.t 9)))), 
  (.mk (some 53) none (.pure (.mv (.t 1)))), 
  (.mk (some 54) none (.pure (.bin .lss (.t 52) (.t 53))))]) (.cond (.t 54) (.ops [
  (.mk (some 55) none (.pure (.mv (.t 0)))), 
  (.mk (some 56) none (.pure (.mv (.t 7)))), 
  (.mk (some 57) none (.pure (.mv (.t 9)))), 
  (.mk (some 58) none (.pure (.mv (.t 1)))), 
  (.mk (some 59) none (.pure (.mv (.t 2)))), 
  (.mk (some 60) none (.call 114 [(.t 55), (.t 56), (.t 57), (.t 58), (.t 59)]))]) .skip))) (.ops [
  (.mk (some 61) none (.pure (.mv (.t 6)))), 
  (.mk (some 62) none (.pure (.bin .mul (.t 61) (.c (.i .i64 2))))), 
  (.mk (some 6) none (.pure (.mv (.t 62))))])))))))))))))
def fn101 : AFn := (AFn.mk 6 [(.t 2)] (.seq (.ops [
  (.mk (some 2) none (.pure (.mv (.c (.b false)))))]) (.seq (.ops [
  (.mk (some 3) none (.pure (.mv (.t 0)))), 
  (.mk (some 4) none (.pure (.mv (.t 0)))), 
  (.mk (some 5) none (.pure (.bin .neq (.t 3) (.t 4)))), 
  (.mk (some 2) none (.pure (.mv (.t 5))))]) .ret)))
def fn113 : AFn := (AFn.mk 53 [] (.seq (.ops [
  (.mk (some 10) none (.pure (.mv (.t 1)))), 
  (.mk (some 11) none (.pure (.bin .add (.t 10) (.c (.i .i64 1))))), 
  (.mk (some 8) none (.pure (.mv (.t 11))))]) (.block 0 (.loop (.seq (.seq (.ops [
  (.mk (some 12) none (.pure (.mv (.t 8)))), 
  (.mk (some 13) none (.pure (.mv (.t 2)))), 
  (.mk (some 14) none (.pure (.bin .lss (.t 12) (.t 13))))]) (.cond (.t 14) .skip (.exit 0))) (.seq (.block 1 (.seq (.ops [
  (.mk (some 17) none (.pure (.mv (.t 8)))), 
  (.mk (some 9) none (.pure (.mv (.t 17))))]) (.block 2 (.loop (.seq (.seq (.flt [(
  (.mk (some 18) none (.pure (.mv (.t 9)))), false), (
  (.mk (some 19) none (.pure (.mv (.t 1)))), false), (
  (.mk (some 20) none (.pure (.bin .gtr (.t 18) (.t 19)))), false), (
  (.mk (some 21) none (.pure (.mv (.t 20)))), false), (
  (.mk (some 22) (some (21, true)) (.pure (.mv (.t 3)))), false), (
  (.mk (some 23) (some (21, true)) (.pure (.mv (.t 0)))), false), (
  (.mk (some 24) (some (21, true)) (.pure (.mv (.t 9)))), false), (
  (.mk (some 25) (some (21, true)) (.pure (.ixS 1 (.t 23) (.t 24)))), false), (
  (.mk (some 26) (some (21, true)) (.ld true 1 (.t 25))), false), (
  (.mk (some 27) (some (21, true)) (.pure (.mv (.t 0)))), false), (
  (.mk (some 28) (some (21, true)) (.pure (.mv (.t 9)))), false), (
  (.mk (some 29) (some (21, true)) (.pure (.bin .sub (.t 28) (.c (.i .i64 1))))), false), (
  (.mk (some 30) (some (21, true)) (.pure (.ixS 1 (.t 27) (.t 29)))), false), (
  (.mk (some 31) (some (21, true)) (.ld true 1 (.t 30))), false), (
  (.mk (some 32) (some (21, true)) (.callv (.t 22) [(.t 26), (.t 31)])), false), (
  (.mk (some 33) (some (21, true)) (.pure (.bin .lss (.t 32) (.c (.i .i64 0))))), false), (
  (.mk (some 34) none (.pure (.pick (.t 21) (.t 33) (.c (.b false))))), false)]) (.cond (.t 34) .skip (.exit 2))) (.seq (.block 3 (.any [(
  (.mk (some 37) none (.pure (.mv (.t 0)))), false), (
  (.mk (some 38) none (.pure (.mv (.t 9)))), false), (
  (.mk (some 39) none (.pure (.mv (.t 0)))), false), (
  (.mk (some 40) none (.pure (.mv (.t 9)))), false), (
  (.mk (some 41) none (.pure (.bin .sub (.t 40) (.c (.i .i64 1))))), false), (
  (.mk (some 42) none (.pure (.mv (.t 0)))), false), (
  (.mk (some 43) none (.pure (.mv (.t 9)))), false), (
  (.mk (some 44) none (.pure (.bin .sub (.t 43) (.c (.i .i64 1))))), false), (
  (.mk (some 45) none (.pure (.ixS 1 (.t 42) (.t 44)))), false), (
  (.mk (some 46) none (.ld true 1 (.t 45))), false), (
  (.mk (some 47) none (.pure (.mv (.t 0)))), false), (
  (.mk (some 48) none (.pure (.mv (.t 9)))), false), (
  (.mk (some 49) none (.pure (.ixS 1 (.t 47) (.t 48)))), false), (
  (.mk (some 50) none (.ld true 1 (.t 49))), false), (
  (.mk (some 51) none (.pure (.ixS 1 (.t 37) (.t 38)))), false), (
  (.mk none none (.st 1 (.t 51) (.t 46))), false), (
  (.mk (some 52) none (.pure (.ixS 1 (.t 39) (.t 41)))), false), (
  (.mk none none (.st 1 (.t 52) (.t 50))), false)])) (.ops [
  (.mk (some 35) none (.pure (.mv (.t 9)))), 
  (.mk (some 36) none (.pure (.bin .sub (.t 35) (.c (.i .i64 1))))), 
  (.mk (some 9) none (.pure (.mv (.t 36))))]))))))) (.ops [
  (.mk (some 15) none (.pure (.mv (.t 8)))), 
  (.mk (some 16) none (.pure (.bin .add (.t 15) (.c (.i .i64 1))))), 
  (.mk (some 8) none (.pure (.mv (.t 16))))])))))))
def fn114 : AFn := (AFn.mk 220 [] (.seq (.seq (.ops [
  (.mk (some 25) none (.pure (.mv (.t 2)))), 
  (.mk (some 26) none (.pure (.mv (.t 1)))), 
  (.mk (some 27) none (.pure (.bin .sub (.t 25) (.t 26)))), 
  (.mk (some 28) none (.pure (.bin .eql (.t 27) (.c (.i .i64 1)))))]) (.cond (.t 28) (.seq (.ops [
  (.mk (some 29) none (.pure (.mv (.t 2)))), 
  (.mk (some 10) none (.pure (.mv (.t 29))))]) (.seq (.ops [
  (.mk (some 30) none (.pure (.mv (.t 3)))), 
  (.mk (some 11) none (.pure (.mv (.t 30))))]) (.seq (.block 0 (.loop (.seq (.seq (.ops [
  (.mk (some 31) none (.pure (.mv (.t 10)))), 
  (.mk (some 32) none (.pure (.mv (.t 11)))), 
  (.mk (some 33) none (.pure (.bin .lss (.t 31) (.t 32))))]) (.cond (.t 33) .skip (.exit 0))) (.block 1 (.seq (.ops [
  (.mk (some 34) none (.pure (.mv (.t 10)))), 
  (.mk (some 35) none (.pure (.mv (.t 11)))), 
  (.mk (some 36) none (.pure (.bin .add (.t 34) (.t 35)))), 
  (.mk (some 37) none (.pure (.conv .u64 (.t 36)))), 
  (.mk (some 38) none (.pure (.bin .shr (.t 37) (.c (.i .u64 1))))), 
  (.mk (some 39) none (.pure (.conv .i64 (.t 38)))), 
  (.mk (some 12) none (.pure (.mv (.t 39))))]) (.seq (.flt [(
  (.mk (some 40) none (.pure (.mv (.t 4)))), false), (
  (.mk (some 41) none (.pure (.mv (.t 0)))), false), (
  (.mk (some 42) none (.pure (.mv (.t 12)))), false), (
  (.mk (some 43) none (.pure (.ixS 1 (.t 41) (.t 42)))), false), (
  (.mk (some 44) none (.ld true 1 (.t 43))), false), (
  (.mk (some 45) none (.pure (.mv (.t 0)))), false), (
  (.mk (some 46) none (.pure (.mv (.t 1)))), false), (
  (.mk (some 47) none (.pure (.ixS 1 (.t 45) (.t 46)))), false), (
  (.mk (some 48) none (.ld true 1 (.t 47))), false), (
  (.mk (some 49) none (.callv (.t 40) [(.t 44), (.t 48)])), false), (
  (.mk (some 50) none (.pure (.bin .lss (.t 49) (.c (.i .i64 0))))), false)]) (.cond (.t 50) (.ops [
  (.mk (some 51) none (.pure (.mv (.t 12)))), 
  (.mk (some 52) none (.pure (.bin .add (.t 51) (.c (.i .i64 1))))), 
  (.mk (some 10) none (.pure (.mv (.t 52))))]) (.ops [
  (.mk (some 53) none (.pure (.mv (.t 12)))), 
  (.mk (some 11) none (.pure (.mv (.t 53))))])))))))) (.seq (.seq (.ops [
  (.mk (some 54) none (.pure (.mv (.t 1)))), 
  (.mk (some 13) none (.pure (.mv (.t 54))))]) (.block 2 (.loop (.seq (.seq (.ops [
  (.mk (some 55) none (.pure (.mv (.t 13)))), 
  (.mk (some 56) none (.pure (.mv (.t 10)))), 
  (.mk (some 57) none (.pure (.bin .sub (.t 56) (.c (.i .i64 1))))), 
  (.mk (some 58) none (.pure (.bin .lss (.t 55) (.t 57))))]) (.cond (.t 58) .skip (.exit 2))) (.seq (.block 3 (.any [(
  (.mk (some 61) none (.pure (.mv (.t 0)))), false), (
  (.mk (some 62) none (.pure (.mv (.t 13)))), false), (
  (.mk (some 63) none (.pure (.mv (.t 0)))), false), (
  (.mk (some 64) none (.pure (.mv (.t 13)))), false), (
  (.mk (some 65) none (.pure (.bin .add (.t 64) (.c (.i .i64 1))))), false), (
  (.mk (some 66) none (.pure (.mv (.t 0)))), false), (
  (.mk (some 67) none (.pure (.mv (.t 13)))), false), (
  (.mk (some 68) none (.pure (.bin .add (.t 67) (.c (.i .i64 1))))), false), (
  (.mk (some 69) none (.pure (.ixS 1 (.t 66) (.t 68)))), false), (
  (.mk (some 70) none (.ld true 1 (.t 69))), false), (
  (.mk (some 71) none (.pure (.mv (.t 0)))), false), (
  (.mk (some 72) none (.pure (.mv (.t 13)))), false), (
  (.mk (some 73) none (.pure (.ixS 1 (.t 71) (.t 72)))), false), (
  (.mk (some 74) none (.ld true 1 (.t 73))), false), (
  (.mk (some 75) none (.pure (.ixS 1 (.t 61) (.t 62)))), false), (
  (.mk none none (.st 1 (.t 75) (.t 70))), false), (
  (.mk (some 76) none (.pure (.ixS 1 (.t 63) (.t 65)))), false), (
  (.mk none none (.st 1 (.t 76) (.t 74))), false)])) (.ops [
  (.mk (some 59) none (.pure (.mv (.t 13)))), 
  (.mk (some 60) none (.pure (.bin .add (.t 59) (.c (.i .i64 1))))), 
  (.mk (some 13) none (.pure (.mv (.t 60))))])))))) .ret)))) .skip)) (.seq (.seq (.ops [
  (.mk (some 77) none (.pure (.mv (.t 3)))), 
  (.mk (some 78) none (.pure (.mv (.t 2)))), 
  (.mk (some 79) none (.pure (.bin .sub (.t 77) (.t 78)))), 
  (.mk (some 80) none (.pure (.bin .eql (.t 79) (.c (.i .i64 1)))))]) (.cond (.t 80) (.seq (.ops [
  (.mk (some 81) none (.pure (.mv (.t 1)))), 
  (.mk (some 14) none (.pure (.mv (.t 81))))]) (.seq (.ops [
  (.mk (some 82) none (.pure (.mv (.t 2)))), 
  (.mk (some 15) none (.pure (.mv (.t 82))))]) (.seq (.block 4 (.loop (.seq (.seq (.ops [
  (.mk (some 83) none (.pure (.mv (.t 14)))), 
  (.mk (some 84) none (.pure (.mv (.t 15)))), 
  (.mk (some 85) none (.pure (.bin .lss (.t 83) (.t 84))))]) (.cond (.t 85) .skip (.exit 4))) (.block 5 (.seq (.ops [
  (.mk (some 86) none (.pure (.mv (.t 14)))), 
  (.mk (some 87) none (.pure (.mv (.t 15)))), 
  (.mk (some 88) none (.pure (.bin .add (.t 86) (.t 87)))), 
  (.mk (some 89) none (.pure (.conv .u64 (.t 88)))), 
  (.mk (some 90) none (.pure (.bin .shr (.t 89) (.c (.i .u64 1))))), 
  (.mk (some 91) none (.pure (.conv .i64 (.t 90)))), 
  (.mk (some 16) none (.pure (.mv (.t 91))))]) (.seq (.flt [(
  (.mk (some 92) none (.pure (.mv (.t 4)))), false), (
  (.mk (some 93) none (.pure (.mv (.t 0)))), false), (
  (.mk (some 94) none (.pure (.mv (.t 2)))), false), (
  (.mk (some 95) none (.pure (.ixS 1 (.t 93) (.t 94)))), false), (
  (.mk (some 96) none (.ld true 1 (.t 95))), false), (
  (.mk (some 97) none (.pure (.mv (.t 0)))), false), (
  (.mk (some 98) none (.pure (.mv (.t 16)))), false), (
  (.mk (some 99) none (.pure (.ixS 1 (.t 97) (.t 98)))), false), (
  (.mk (some 100) none (.ld true 1 (.t 99))), false), (
  (.mk (some 101) none (.callv (.t 92) [(.t 96), (.t 100)])), false), (
  (.mk (some 102) none (.pure (.bin .lss (.t 101) (.c (.i .i64 0))))), false), (
  (.mk (some 103) none (.pure (.not (.t 102)))), false)]) (.cond (.t 103) (.ops [
  (.mk (some 104) none (.pure (.mv (.t 16)))), 
  (.mk (some 105) none (.pure (.bin .add (.t 104) (.c (.i .i64 1))))), 
  (.mk (some 14) none (.pure (.mv (.t 105))))]) (.ops [
  (.mk (some 106) none (.pure (.mv (.t 16)))), 
  (.mk (some 15) none (.pure (.mv (.t 106))))])))))))) (.seq (.seq (.ops [
  (.mk (some 107) none (.pure (.mv (.t 2)))), 
  (.mk (some 17) none (.pure (.mv (.t 107))))]) (.block 6 (.loop (.seq (.seq (.ops [
  (.mk (some 108) none (.pure (.mv (.t 17)))), 
  (.mk (some 109) none (.pure (.mv (.t 14)))), 
  (.mk (some 110) none (.pure (.bin .gtr (.t 108) (.t 109))))]) (.cond (.t 110) .skip (.exit 6))) (.seq (.block 7 (.any [(
  (.mk (some 113) none (.pure (.mv (.t 0)))), false), (
  (.mk (some 114) none (.pure (.mv (.t 17)))), false), (
  (.mk (some 115) none (.pure (.mv (.t 0)))), false), (
  (.mk (some 116) none (.pure (.mv (.t 17)))), false), (
  (.mk (some 117) none (.pure (.bin .sub (.t 116) (.c (.i .i64 1))))), false), (
  (.mk (some 118) none (.pure (.mv (.t 0)))), false), (
  (.mk (some 119) none (.pure (.mv (.t 17)))), false), (
  (.mk (some 120) none (.pure (.bin .sub (.t 119) (.c (.i .i64 1))))), false), (
  (.mk (some 121) none (.pure (.ixS 1 (.t 118) (.t 120)))), false), (
  (.mk (some 122) none (.ld true 1 (.t 121))), false), (
  (.mk (some 123) none (.pure (.mv (.t 0)))), false), (
  (.mk (some 124) none (.pure (.mv (.t 17)))), false), (
  (.mk (some 125) none (.pure (.ixS 1 (.t 123) (.t 124)))), false), (
  (.mk (some 126) none (.ld true 1 (.t 125))), false), (
  (.mk (some 127) none (.pure (.ixS 1 (.t 113) (.t 114)))), false), (
  (.mk none none (.st 1 (.t 127) (.t 122))), false), (
  (.mk (some 128) none (.pure (.ixS 1 (.t 115) (.t 117)))), false), (
  (.mk none none (.st 1 (.t 128) (.t 126))), false)])) (.ops [
  (.mk (some 111) none (.pure (.mv (.t 17)))), 
  (.mk (some 112) none (.pure (.bin .sub (.t 111) (.c (.i .i64 1))))), 
  (.mk (some 17) none (.pure (.mv (.t 112))))])))))) .ret)))) .skip)) (.seq (.ops [
  (.mk (some 129) none (.pure (.mv (.t 1)))), 
  (.mk (some 130) none (.pure (.mv (.t 3)))), 
  (.mk (some 131) none (.pure (.bin .add (.t 129) (.t 130)))), 
  (.mk (some 132) none (.pure (.conv .u64 (.t 131)))), 
  (.mk (some 133) none (.pure (.bin .shr (.t 132) (.c (.i .u64 1))))), 
  (.mk (some 134) none (.pure (.conv .i64 (.t 133)))), 
  (.mk (some 18) none (.pure (.mv (.t 134))))]) (.seq (.ops [
  (.mk (some 135) none (.pure (.mv (.t 18)))), 
  (.mk (some 136) none (.pure (.mv (.t 2)))), 
  (.mk (some 137) none (.pure (.bin .add (.t 135) (.t 136)))), 
  (.mk (some 19) none (.pure (.mv (.t 137))))]) (.seq (.ops [
  (.mk (some 20) none (.pure (.mv (.c (.i .i64 0))))), 
  (.mk (some 21) none (.pure (.mv (.c (.i .i64 0)))))]) (.seq (.seq (.ops [
  (.mk (some 138) none (.pure (.mv (.t 2)))), 
  (.mk (some 139) none (.pure (.mv (.t 18)))), 
  (.mk (some 140) none (.pure (.bin .gtr (.t 138) (.t 139))))]) (.cond (.t 140) (.seq (.ops [
  (.mk (some 141) none (.pure (.mv (.t 19)))), 
  (.mk (some 142) none (.pure (.mv (.t 3)))), 
  (.mk (some 143) none (.pure (.bin .sub (.t 141) (.t 142)))), 
  (.mk (some 20) none (.pure (.mv (.t 143))))]) (.ops [
  (.mk (some 144) none (.pure (.mv (.t 18)))), 
  (.mk (some 21) none (.pure (.mv (.t 144))))])) (.seq (.ops [
  (.mk (some 145) none (.pure (.mv (.t 1)))), 
  (.mk (some 20) none (.pure (.mv (.t 145))))]) (.ops [
  (.mk (some 146) none (.pure (.mv (.t 2)))), 
  (.mk (some 21) none (.pure (.mv (.t 146))))])))) (.seq (.ops [
  (.mk (some 147) none (.pure (.mv (.t 19)))), 
  (.mk (some 148) none (.pure (.bin .sub (.t 147) (.c (.i .i64 1))))), 
  (.mk (some 22) none (.pure (.mv (.t 148))))]) (.seq (.block 8 (.loop (.seq (.seq (.ops [
  (.mk (some 149) none (.pure (.mv (.t 20)))), 
  (.mk (some 150) none (.pure (.mv (.t 21)))), 
  (.mk (some 151) none (.pure (.bin .lss (.t 149) (.t 150))))]) (.cond (.t 151) .skip (.exit 8))) (.block 9 (.seq (.ops [
  (.mk (some 152) none (.pure (.mv (.t 20)))), 
  (.mk (some 153) none (.pure (.mv (.t 21)))), 
  (.mk (some 154) none (.pure (.bin .add (.t 152) (.t 153)))), 
  (.mk (some 155) none (.pure (.conv .u64 (.t 154)))), 
  (.mk (some 156) none (.pure (.bin .shr (.t 155) (.c (.i .u64 1))))), 
  (.mk (some 157) none (.pure (.conv .i64 (.t 156)))), 
  (.mk (some 23) none (.pure (.mv (.t 157))))]) (.seq (.flt [(
  (.mk (some 158) none (.pure (.mv (.t 4)))), false), (
  (.mk (some 159) none (.pure (.mv (.t 0)))), false), (
  (.mk (some 160) none (.pure (.mv (.t 22)))), false), (
  (.mk (some 161) none (.pure (.mv (.t 23)))), false), (
  (.mk (some 162) none (.pure (.bin .sub (.t 160) (.t 161)))), false), (
  (.mk (some 163) none (.pure (.ixS 1 (.t 159) (.t 162)))), false), (
  (.mk (some 164) none (.ld true 1 (.t 163))), false), (
  (.mk (some 165) none (.pure (.mv (.t 0)))), false), (
  (.mk (some 166) none (.pure (.mv (.t 23)))), false), (
  (.mk (some 167) none (.pure (.ixS 1 (.t 165) (.t 166)))), false), (
  (.mk (some 168) none (.ld true 1 (.t 167))), false), (
  (.mk (some 169) none (.callv (.t 158) [(.t 164), (.t 168)])), false), (
  (.mk (some 170) none (.pure (.bin .lss (.t 169) (.c (.i .i64 0))))), false), (
  (.mk (some 171) none (.pure (.not (.t 170)))), false)]) (.cond (.t 171) (.ops [
  (.mk (some 172) none (.pure (.mv (.t 23)))), 
  (.mk (some 173) none (.pure (.bin .add (.t 172) (.c (.i .i64 1))))), 
  (.mk (some 20) none (.pure (.mv (.t 173))))]) (.ops [
  (.mk (some 174) none (.pure (.mv (.t 23)))), 
  (.mk (some 21) none (.pure (.mv (.t 174))))])))))))) (.seq (.ops [
  (.mk (some 175) none (.pure (.mv (.t 19)))), 
  (.mk (some 176) none (.pure (.mv (.t 20)))), 
  (.mk (some 177) none (.pure (.bin .sub (.t 175) (.t 176)))), 
  (.mk (some 24) none (.pure (.mv (.t 177))))]) (.seq (.seq (.ops [
  (.mk (some 178) none (.pure (.mv (.t 20)))), 
  (.mk (some 179) none (.pure (.mv (.t 2)))), 
  (.mk (some 180) none (.pure (.bin .lss (.t 178) (.t 179)))), 
  (.mk (some 181) none (.pure (.mv (.t 180)))), 
  (.mk (some 182) (some (181, true)) (.pure (.mv (.t 2)))), 
  (.mk (some 183) (some (181, true)) (.pure (.mv (.t 24)))), 
  (.mk (some 184) (some (181, true)) (.pure (.bin .lss (.t 182) (.t 183)))), 
  (.mk (some 185) none (.pure (.pick (.t 181) (.t 184) (.c (.b false)))))]) (.cond (.t 185) (.ops [
  (.mk (some 186) none (.pure (.mv (.t 0)))), 
  (.mk (some 187) none (.pure (.mv (.t 20)))), 
  (.mk (some 188) none (.pure (.mv (.t 2)))), 
  (.mk (some 189) none (.pure (.mv (.t 24)))), 
  (.mk (some 190) none (.pure (.mv (.t 4)))), 
  (.mk (some 191) none (.call 120 [(.t 186), (.t 187), (.t 188), (.t 189), (.t 190)]))]) .skip)) (.seq (.seq (.ops [
  (.mk (some 192) none (.pure (.mv (.t 1)))), 
  (.mk (some 193) none (.pure (.mv (.t 20)))), 
  (.mk (some 194) none (.pure (.bin .lss (.t 192) (.t 193)))), 
  (.mk (some 195) none (.pure (.mv (.t 194)))), 
  (.mk (some 196) (some (195, true)) (.pure (.mv (.t 20)))), 
  (.mk (some 197) (some (195, true)) (.pure (.mv (.t 18)))), 
  (.mk (some 198) (some (195, true)) (.pure (.bin .lss (.t 196) (.t 197)))), 
  (.mk (some 199) none (.pure (.pick (.t 195) (.t 198) (.c (.b false)))))]) (.cond (.t 199) (.ops [
  (.mk (some 200) none (.pure (.mv (.t 0)))), 
  (.mk (some 201) none (.pure (.mv (.t 1)))), 
  (.mk (some 202) none (.pure (.mv (.t 20)))), 
  (.mk (some 203) none (.pure (.mv (.t 18)))), 
  (.mk (some 204) none (.pure (.mv (.t 4)))), 
  (.mk (some 205) none (.call 114 [(.t 200), (.t 201), (.t 202), (.t 203), (.t 204)]))]) .skip)) (.seq (.ops [
  (.mk (some 206) none (.pure (.mv (.t 18)))), 
  (.mk (some 207) none (.pure (.mv (.t 24)))), 
  (.mk (some 208) none (.pure (.bin .lss (.t 206) (.t 207)))), 
  (.mk (some 209) none (.pure (.mv (.t 208)))), 
  (.mk (some 210) (some (209, true)) (.pure (.mv (.t 24)))), 
  (.mk (some 211) (some (209, true)) (.pure (.mv (.t 3)))), 
  (.mk (some 212) (some (209, true)) (.pure (.bin .lss (.t 210) (.t 211)))), 
  (.mk (some 213) none (.pure (.pick (.t 209) (.t 212) (.c (.b false)))))]) (.cond (.t 213) (.ops [
  (.mk (some 214) none (.pure (.mv (.t 0)))), 
  (.mk (some 215) none (.pure (.mv (.t 18)))), 
  (.mk (some 216) none (.pure (.mv (.t 24)))), 
  (.mk (some 217) none (.pure (.mv (.t 3)))), 
  (.mk (some 218) none (.pure (.mv (.t 4)))), 
  (.mk (some 219) none (.call 114 [(.t 214), (.t 215), (.t 216), (.t 217), (.t 218)]))]) .skip))))))))))))))
def fn120 : AFn := (AFn.mk 58 [] (.seq (.ops [
  (.mk (some 12) none (.pure (.mv (.t 2)))), 
  (.mk (some 13) none (.pure (.mv (.t 1)))), 
  (.mk (some 14) none (.pure (.bin .sub (.t 12) (.t 13)))), 
  (.mk (some 10) none (.pure (.mv (.t 14))))]) (.seq (.ops [
  (.mk (some 15) none (.pure (.mv (.t 3)))), 
  (.mk (some 16) none (.pure (.mv (.t 2)))), 
  (.mk (some 17) none (.pure (.bin .sub (.t 15) (.t 16)))), 
  (.mk (some 11) none (.pure (.mv (.t 17))))]) (.seq (.block 0 (.loop (.seq (.seq (.ops [
  (.mk (some 18) none (.pure (.mv (.t 10)))), 
  (.mk (some 19) none (.pure (.mv (.t 11)))), 
  (.mk (some 20) none (.pure (.bin .neq (.t 18) (.t 19))))]) (.cond (.t 20) .skip (.exit 0))) (.block 1 (.seq (.ops [
  (.mk (some 21) none (.pure (.mv (.t 10)))), 
  (.mk (some 22) none (.pure (.mv (.t 11)))), 
  (.mk (some 23) none (.pure (.bin .gtr (.t 21) (.t 22))))]) (.cond (.t 23) (.seq (.ops [
  (.mk (some 24) none (.pure (.mv (.t 0)))), 
  (.mk (some 25) none (.pure (.mv (.t 2)))), 
  (.mk (some 26) none (.pure (.mv (.t 10)))), 
  (.mk (some 27) none (.pure (.bin .sub (.t 25) (.t 26)))), 
  (.mk (some 28) none (.pure (.mv (.t 2)))), 
  (.mk (some 29) none (.pure (.mv (.t 11)))), 
  (.mk (some 30) none (.pure (.mv (.t 4)))), 
  (.mk (some 31) none (.call 122 [(.t 24), (.t 27), (.t 28), (.t 29), (.t 30)]))]) (.ops [
  (.mk (some 32) none (.pure (.mv (.t 10)))), 
  (.mk (some 33) none (.pure (.mv (.t 11)))), 
  (.mk (some 34) none (.pure (.bin .sub (.t 32) (.t 33)))), 
  (.mk (some 10) none (.pure (.mv (.t 34))))])) (.seq (.ops [
  (.mk (some 35) none (.pure (.mv (.t 0)))), 
  (.mk (some 36) none (.pure (.mv (.t 2)))), 
  (.mk (some 37) none (.pure (.mv (.t 10)))), 
  (.mk (some 38) none (.pure (.bin .sub (.t 36) (.t 37)))), 
  (.mk (some 39) none (.pure (.mv (.t 2)))), 
  (.mk (some 40) none (.pure (.mv (.t 11)))), 
  (.mk (some 41) none (.pure (.bin .add (.t 39) (.t 40)))), 
  (.mk (some 42) none (.pure (.mv (.t 10)))), 
  (.mk (some 43) none (.pure (.bin .sub (.t 41) (.t 42)))), 
  (.mk (some 44) none (.pure (.mv (.t 10)))), 
  (.mk (some 45) none (.pure (.mv (.t 4)))), 
  (.mk (some 46) none (.call 122 [(.t 35), (.t 38), (.t 43), (.t 44), (.t 45)]))]) (.ops [
  (.mk (some 47) none (.pure (.mv (.t 11)))), 
  (.mk (some 48) none (.pure (.mv (.t 10)))), 
  (.mk (some 49) none (.pure (.bin .sub (.t 47) (.t 48)))), 
  (.mk (some 11) none (.pure (.mv (.t 49))))])))))))) (.ops [
  (.mk (some 50) none (.pure (.mv (.t 0)))), 
  (.mk (some 51) none (.pure (.mv (.t 2)))), 
  (.mk (some 52) none (.pure (.mv (.t 10)))), 
  (.mk (some 53) none (.pure (.bin .sub (.t 51) (.t 52)))), 
  (.mk (some 54) none (.pure (.mv (.t 2)))), 
  (.mk (some 55) none (.pure (.mv (.t 10)))), 
  (.mk (some 56) none (.pure (.mv (.t 4)))), 
  (.mk (some 57) none (.call 122 [(.t 50), (.t 53), (.t 54), (.t 55), (.t 56)]))])))))
def fn122 : AFn := (AFn.mk 38 [] (.seq (.ops [
  (.mk (some 10) none (.pure (.mv (.c (.i .i64 0)))))]) (.block 0 (.loop (.seq (.seq (.ops [
  (.mk (some 11) none (.pure (.mv (.t 10)))), 
  (.mk (some 12) none (.pure (.mv (.t 3)))), 
  (.mk (some 13) none (.pure (.bin .lss (.t 11) (.t 12))))]) (.cond (.t 13) .skip (.exit 0))) (.seq (.block 1 (.any [(
  (.mk (some 16) none (.pure (.mv (.t 0)))), false), (
  (.mk (some 17) none (.pure (.mv (.t 1)))), false), (
  (.mk (some 18) none (.pure (.mv (.t 10)))), false), (
  (.mk (some 19) none (.pure (.bin .add (.t 17) (.t 18)))), false), (
  (.mk (some 20) none (.pure (.mv (.t 0)))), false), (
  (.mk (some 21) none (.pure (.mv (.t 2)))), false), (
  (.mk (some 22) none (.pure (.mv (.t 10)))), false), (
  (.mk (some 23) none (.pure (.bin .add (.t 21) (.t 22)))), false), (
  (.mk (some 24) none (.pure (.mv (.t 0)))), false), (
  (.mk (some 25) none (.pure (.mv (.t 2)))), false), (
  (.mk (some 26) none (.pure (.mv (.t 10)))), false), (
  (.mk (some 27) none (.pure (.bin .add (.t 25) (.t 26)))), false), (
  (.mk (some 28) none (.pure (.ixS 1 (.t 24) (.t 27)))), false), (
  (.mk (some 29) none (.ld true 1 (.t 28))), false), (
  (.mk (some 30) none (.pure (.mv (.t 0)))), false), (
  (.mk (some 31) none (.pure (.mv (.t 1)))), false), (
  (.mk (some 32) none (.pure (.mv (.t 10)))), false), (
  (.mk (some 33) none (.pure (.bin .add (.t 31) (.t 32)))), false), (
  (.mk (some 34) none (.pure (.ixS 1 (.t 30) (.t 33)))), false), (
  (.mk (some 35) none (.ld true 1 (.t 34))), false), (
  (.mk (some 36) none (.pure (.ixS 1 (.t 16) (.t 19)))), false), (
  (.mk none none (.st 1 (.t 36) (.t 29))), false), (
  (.mk (some 37) none (.pure (.ixS 1 (.t 20) (.t 23)))), false), (
  (.mk none none (.st 1 (.t 37) (.t 35))), false)])) (.ops [
  (.mk (some 14) none (.pure (.mv (.t 10)))), 
  (.mk (some 15) none (.pure (.bin .add (.t 14) (.c (.i .i64 1))))), 
  (.mk (some 10) none (.pure (.mv (.t 15))))])))))))
def F (f : Nat) : Option AFn := cond (Nat.blt f 67) (cond (Nat.blt f 43) (cond (Nat.blt f 25) (cond (Nat.blt f 16) (cond (Nat.blt f 14) (cond (Nat.beq f 12) (some fn12) none) (cond (Nat.blt f 15) (cond (Nat.beq f 14) (some fn14) none) (cond (Nat.beq f 15) (some fn15) none))) (cond (Nat.blt f 20) (cond (Nat.blt f 17) (cond (Nat.beq f 16) (some fn16) none) (cond (Nat.beq f 17) (some fn17) none)) (cond (Nat.blt f 21) (cond (Nat.beq f 20) (some fn20) none) (cond (Nat.beq f 21) (some fn21) none)))) (cond (Nat.blt f 33) (cond (Nat.blt f 29) (cond (Nat.beq f 25) (some fn25) none) (cond (Nat.blt f 31) (cond (Nat.beq f 29) (some fn29) none) (cond (Nat.beq f 31) (some fn31) none))) (cond (Nat.blt f 39) (cond (Nat.blt f 35) (cond (Nat.beq f 33) (some fn33) none) (cond (Nat.beq f 35) (some fn35) none)) (cond (Nat.blt f 42) (cond (Nat.beq f 39) (some fn39) none) (cond (Nat.beq f 42) (some fn42) none))))) (cond (Nat.blt f 50) (cond (Nat.blt f 46) (cond (Nat.blt f 44) (cond (Nat.beq f 43) (some fn43) none) (cond (Nat.blt f 45) (cond (Nat.beq f 44) (some fn44) none) (cond (Nat.beq f 45) (some fn45) none))) (cond (Nat.blt f 48) (cond (Nat.blt f 47) (cond (Nat.beq f 46) (some fn46) none) (cond (Nat.beq f 47) (some fn47) none)) (cond (Nat.blt f 49) (cond (Nat.beq f 48) (some fn48) none) (cond (Nat.beq f 49) (some fn49) none)))) (cond (Nat.blt f 53) (cond (Nat.blt f 51) (cond (Nat.beq f 50) (some fn50) none) (cond (Nat.blt f 52) (cond (Nat.beq f 51) (some fn51) none) (cond (Nat.beq f 52) (some fn52) none))) (cond (Nat.blt f 65) (cond (Nat.blt f 60) (cond (Nat.beq f 53) (some fn53) none) (cond (Nat.beq f 60) (some fn60) none)) (cond (Nat.blt f 66) (cond (Nat.beq f 65) (some fn65) none) (cond (Nat.beq f 66) (some fn66) none)))))) (cond (Nat.blt f 88) (cond (Nat.blt f 79) (cond (Nat.blt f 73) (cond (Nat.blt f 70) (cond (Nat.beq f 67) (some fn67) none) (cond (Nat.blt f 71) (cond (Nat.beq f 70) (some fn70) none) (cond (Nat.beq f 71) (some fn71) none))) (cond (Nat.blt f 75) (cond (Nat.blt f 74) (cond (Nat.beq f 73) (some fn73) none) (cond (Nat.beq f 74) (some fn74) none)) (cond (Nat.blt f 78) (cond (Nat.beq f 75) (some fn75) none) (cond (Nat.beq f 78) (some fn78) none)))) (cond (Nat.blt f 82) (cond (Nat.blt f 80) (cond (Nat.beq f 79) (some fn79) none) (cond (Nat.blt f 81) (cond (Nat.beq f 80) (some fn80) none) (cond (Nat.beq f 81) (some fn81) none))) (cond (Nat.blt f 84) (cond (Nat.blt f 83) (cond (Nat.beq f 82) (some fn82) none) (cond (Nat.beq f 83) (some fn83) none)) (cond (Nat.blt f 87) (cond (Nat.beq f 84) (some fn84) none) (cond (Nat.beq f 87) (some fn87) none))))) (cond (Nat.blt f 99) (cond (Nat.blt f 91) (cond (Nat.blt f 89) (cond (Nat.beq f 88) (some fn88) none) (cond (Nat.blt f 90) (cond (Nat.beq f 89) (some fn89) none) (cond (Nat.beq f 90) (some fn90) none))) (cond (Nat.blt f 97) (cond (Nat.blt f 95) (cond (Nat.beq f 91) (some fn91) none) (cond (Nat.beq f 95) (some fn95) none)) (cond (Nat.blt f 98) (cond (Nat.beq f 97) (some fn97) none) (cond (Nat.beq f 98) (some fn98) none)))) (cond (Nat.blt f 113) (cond (Nat.blt f 100) (cond (Nat.beq f 99) (some fn99) none) (cond (Nat.blt f 101) (cond (Nat.beq f 100) (some fn100) none) (cond (Nat.beq f 101) (some fn101) none))) (cond (Nat.blt f 120) (cond (Nat.blt f 114) (cond (Nat.beq f 113) (some fn113) none) (cond (Nat.beq f 114) (some fn114) none)) (cond (Nat.blt f 122) (cond (Nat.beq f 120) (some fn120) none) (cond (Nat.beq f 122) (some fn122) none))))))
end Go.Proofs.Ythdglempcfknhaa.T
