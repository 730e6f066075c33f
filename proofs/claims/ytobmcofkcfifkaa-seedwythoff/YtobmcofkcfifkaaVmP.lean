/- The functions that the law reaches, as the small machine takes them. -/
import Derived.Test.YtobmcofkcfifkaaVmA
import Derived.KernelRfl
open Go.Vm
namespace Go.Proofs.Ytobmcofkcfifkaa.T
open Go
def fn13 : AFn := (AFn.mk 271 [(.t 10)] (.seq (.ops [
  (.mk (some 10) none (.pure (.mv (.c (.b false)))))]) (.seq (.ops [
  (.mk (some 33) none (.pure (.mv (.t 0)))), 
  (.mk (some 34) none (.pure (.bin .rem (.t 33) (.c (.i .u64 288230376151711745))))), 
  (.mk (some 35) none (.pure (.conv .i64 (.t 34)))), 
  (.mk (some 11) none (.pure (.mv (.t 35))))]) (.seq (.ops [
  (.mk (some 37) none (.pure (.mv (.t 11)))), 
  (.mk (some 38) none (.call 33 [(.t 37)])), 
  (.mk (some 36) none (.pure (.mv (.t 38)))), 
  (.mk (some 39) none (.pure (.ext 0 (.t 36)))), 
  (.mk (some 40) none (.pure (.ext 1 (.t 36)))), 
  (.mk (some 41) none (.pure (.ext 2 (.t 36)))), 
  (.mk (some 12) none (.pure (.mv (.t 39)))), 
  (.mk (some 13) none (.pure (.mv (.t 40)))), 
  (.mk (some 14) none (.pure (.mv (.t 41))))]) (.seq (.ops [
  (.mk (some 43) none (.pure (.mv (.t 12)))), 
  (.mk (some 44) none (.pure (.mv (.t 13)))), 
  (.mk (some 45) none (.call 35 [(.t 43), (.t 44)])), 
  (.mk (some 42) none (.pure (.mv (.t 45)))), 
  (.mk (some 46) none (.pure (.ext 0 (.t 42)))), 
  (.mk (some 47) none (.pure (.ext 1 (.t 42)))), 
  (.mk (some 15) none (.pure (.mv (.t 46)))), 
  (.mk (some 16) none (.pure (.mv (.t 47))))]) (.seq (.ops [
  (.mk (some 49) none (.pure (.mv (.t 13)))), 
  (.mk (some 50) none (.pure (.mv (.t 12)))), 
  (.mk (some 51) none (.call 35 [(.t 49), (.t 50)])), 
  (.mk (some 48) none (.pure (.mv (.t 51)))), 
  (.mk (some 52) none (.pure (.ext 0 (.t 48)))), 
  (.mk (some 53) none (.pure (.ext 1 (.t 48)))), 
  (.mk (some 17) none (.pure (.mv (.t 52)))), 
  (.mk (some 18) none (.pure (.mv (.t 53))))]) (.seq (.seq (.ops [
  (.mk (some 54) none (.pure (.mv (.t 14)))), 
  (.mk (some 55) none (.pure (.bin .neq (.t 54) (.c (.i .i64 0))))), 
  (.mk (some 56) none (.pure (.mv (.t 55)))), 
  (.mk (some 57) (some (56, false)) (.pure (.mv (.t 16)))), 
  (.mk (some 58) (some (56, false)) (.pure (.bin .neq (.t 57) (.c (.i .i64 0))))), 
  (.mk (some 59) none (.pure (.pick (.t 56) (.c (.b true)) (.t 58)))), 
  (.mk (some 60) none (.pure (.mv (.t 59)))), 
  (.mk (some 61) (some (60, false)) (.pure (.mv (.t 18)))), 
  (.mk (some 62) (some (60, false)) (.pure (.bin .neq (.t 61) (.c (.i .i64 0))))), 
  (.mk (some 63) none (.pure (.pick (.t 60) (.c (.b true)) (.t 62)))), 
  (.mk (some 64) none (.pure (.mv (.t 63)))), 
  (.mk (some 65) (some (64, false)) (.pure (.mv (.t 15)))), 
  (.mk (some 66) (some (64, false)) (.pure (.not (.t 65)))), 
  (.mk (some 67) none (.pure (.pick (.t 64) (.c (.b true)) (.t 66)))), 
  (.mk (some 68) none (.pure (.mv (.t 67)))), 
  (.mk (some 69) (some (68, false)) (.pure (.mv (.t 17)))), 
  (.mk (some 70) (some (68, false)) (.pure (.not (.t 69)))), 
  (.mk (some 71) none (.pure (.pick (.t 68) (.c (.b true)) (.t 70)))), 
  (.mk (some 72) none (.pure (.mv (.t 71)))), 
  (.mk (some 73) (some (72, false)) (.pure (.mv (.t 13)))), 
  (.mk (some 74) (some (72, false)) (.pure (.mv (.t 12)))), 
  (.mk (some 75) (some (72, false)) (.pure (.mv (.t 11)))), 
  (.mk (some 76) (some (72, false)) (.pure (.bin .add (.t 74) (.t 75)))), 
  (.mk (some 77) (some (72, false)) (.pure (.bin .neq (.t 73) (.t 76)))), 
  (.mk (some 78) none (.pure (.pick (.t 72) (.c (.b true)) (.t 77))))]) (.cond (.t 78) (.seq (.ops [
  (.mk (some 10) none (.pure (.mv (.c (.b false)))))]) .ret) .skip)) (.seq (.seq (.ops [
  (.mk (some 79) none (.pure (.mv (.t 11)))), 
  (.mk (some 80) none (.pure (.bin .gtr (.t 79) (.c (.i .i64 0)))))]) (.cond (.t 80) (.seq (.ops [
  (.mk (some 82) none (.pure (.mv (.t 12)))), 
  (.mk (some 83) none (.call 19 [(.t 82)])), 
  (.mk (some 81) none (.pure (.mv (.t 83)))), 
  (.mk (some 84) none (.pure (.ext 0 (.t 81)))), 
  (.mk (some 85) none (.pure (.ext 1 (.t 81)))), 
  (.mk (some 19) none (.pure (.mv (.t 84)))), 
  (.mk (some 20) none (.pure (.mv (.t 85))))]) (.seq (.ops [
  (.mk (some 87) none (.pure (.mv (.t 13)))), 
  (.mk (some 88) none (.call 19 [(.t 87)])), 
  (.mk (some 86) none (.pure (.mv (.t 88)))), 
  (.mk (some 89) none (.pure (.ext 0 (.t 86)))), 
  (.mk (some 90) none (.pure (.ext 1 (.t 86)))), 
  (.mk (some 21) none (.pure (.mv (.t 89)))), 
  (.mk (some 22) none (.pure (.mv (.t 90))))]) (.seq (.ops [
  (.mk (some 91) none (.pure (.mv (.t 20)))), 
  (.mk (some 92) none (.pure (.bin .neq (.t 91) (.c (.i .i64 0))))), 
  (.mk (some 93) none (.pure (.mv (.t 92)))), 
  (.mk (some 94) (some (93, false)) (.pure (.mv (.t 22)))), 
  (.mk (some 95) (some (93, false)) (.pure (.bin .neq (.t 94) (.c (.i .i64 0))))), 
  (.mk (some 96) none (.pure (.pick (.t 93) (.c (.b true)) (.t 95)))), 
  (.mk (some 97) none (.pure (.mv (.t 96)))), 
  (.mk (some 98) (some (97, false)) (.pure (.mv (.t 19)))), 
  (.mk (some 99) (some (97, false)) (.call 48 [(.t 98)])), 
  (.mk (some 100) (some (97, false)) (.pure (.bin .rem (.t 99) (.c (.i .i64 2))))), 
  (.mk (some 101) (some (97, false)) (.pure (.bin .neq (.t 100) (.c (.i .i64 0))))), 
  (.mk (some 102) none (.pure (.pick (.t 97) (.c (.b true)) (.t 101)))), 
  (.mk (some 103) none (.pure (.mv (.t 102)))), 
  (.mk (some 104) (some (103, false)) (.pure (.mv (.t 21)))), 
  (.mk (some 105) (some (103, false)) (.pure (.mv (.t 19)))), 
  (.mk (some 106) (some (103, false)) (.pure (.sbin .add (.t 105) (.c (.s [48]))))), 
  (.mk (some 107) (some (103, false)) (.pure (.sbin .neq (.t 104) (.t 106)))), 
  (.mk (some 108) none (.pure (.pick (.t 103) (.c (.b true)) (.t 107))))]) (.cond (.t 108) (.seq (.ops [
  (.mk (some 10) none (.pure (.mv (.c (.b false)))))]) .ret) .skip)))) .skip)) (.seq (.ops [
  (.mk (some 109) none (.pure (.mv (.t 1)))), 
  (.mk (some 110) none (.call 45 [(.t 109)])), 
  (.mk (some 111) none (.pure (.mv (.t 2)))), 
  (.mk (some 112) none (.call 45 [(.t 111)])), 
  (.mk (some 23) none (.pure (.mv (.t 110)))), 
  (.mk (some 24) none (.pure (.mv (.t 112))))]) (.seq (.seq (.ops [
  (.mk (some 113) none (.pure (.mv (.t 4)))), 
  (.mk (some 114) none (.pure (.bin .rem (.t 113) (.c (.i .u8 2))))), 
  (.mk (some 115) none (.pure (.bin .eql (.t 114) (.c (.i .u8 0)))))]) (.cond (.t 115) (.ops [
  (.mk (some 116) none (.pure (.mv (.t 1)))), 
  (.mk (some 117) none (.call 47 [(.t 116)])), 
  (.mk (some 118) none (.pure (.bin .rem (.t 117) (.c (.i .i64 200))))), 
  (.mk (some 119) none (.pure (.mv (.t 2)))), 
  (.mk (some 120) none (.call 47 [(.t 119)])), 
  (.mk (some 121) none (.pure (.bin .rem (.t 120) (.c (.i .i64 200))))), 
  (.mk (some 23) none (.pure (.mv (.t 118)))), 
  (.mk (some 24) none (.pure (.mv (.t 121))))]) .skip)) (.seq (.ops [
  (.mk (some 123) none (.pure (.mv (.t 23)))), 
  (.mk (some 124) none (.pure (.mv (.t 24)))), 
  (.mk (some 125) none (.call 35 [(.t 123), (.t 124)])), 
  (.mk (some 122) none (.pure (.mv (.t 125)))), 
  (.mk (some 126) none (.pure (.ext 0 (.t 122)))), 
  (.mk (some 127) none (.pure (.ext 1 (.t 122)))), 
  (.mk (some 25) none (.pure (.mv (.t 126)))), 
  (.mk (some 14) none (.pure (.mv (.t 127))))]) (.seq (.ops [
  (.mk (some 129) none (.pure (.mv (.t 23)))), 
  (.mk (some 130) none (.pure (.mv (.t 24)))), 
  (.mk (some 131) none (.call 37 [(.t 129), (.t 130)])), 
  (.mk (some 128) none (.pure (.mv (.t 131)))), 
  (.mk (some 132) none (.pure (.ext 0 (.t 128)))), 
  (.mk (some 133) none (.pure (.ext 1 (.t 128)))), 
  (.mk (some 134) none (.pure (.ext 2 (.t 128)))), 
  (.mk (some 26) none (.pure (.mv (.t 132)))), 
  (.mk (some 27) none (.pure (.mv (.t 133)))), 
  (.mk (some 16) none (.pure (.mv (.t 134))))]) (.seq (.seq (.ops [
  (.mk (some 135) none (.pure (.mv (.t 14)))), 
  (.mk (some 136) none (.pure (.bin .neq (.t 135) (.c (.i .i64 0))))), 
  (.mk (some 137) none (.pure (.mv (.t 136)))), 
  (.mk (some 138) (some (137, false)) (.pure (.mv (.t 25)))), 
  (.mk (some 139) (some (137, false)) (.pure (.mv (.t 16)))), 
  (.mk (some 140) (some (137, false)) (.pure (.bin .eql (.t 139) (.c (.i .i64 10))))), 
  (.mk (some 141) (some (137, false)) (.pure (.beq true (.t 138) (.t 140)))), 
  (.mk (some 142) none (.pure (.pick (.t 137) (.c (.b true)) (.t 141)))), 
  (.mk (some 143) none (.pure (.mv (.t 142)))), 
  (.mk (some 144) (some (143, false)) (.pure (.mv (.t 25)))), 
  (.mk (some 145) (some (143, false)) (.pure (.not (.t 144)))), 
  (.mk (some 146) (some (143, false)) (.pure (.mv (.t 145)))), 
  (.mk (some 147) (some (146, true)) (.pure (.mv (.t 16)))), 
  (.mk (some 148) (some (146, true)) (.pure (.bin .neq (.t 147) (.c (.i .i64 0))))), 
  (.mk (some 149) (some (143, false)) (.pure (.pick (.t 146) (.t 148) (.c (.b false))))), 
  (.mk (some 150) none (.pure (.pick (.t 143) (.c (.b true)) (.t 149))))]) (.cond (.t 150) (.seq (.ops [
  (.mk (some 10) none (.pure (.mv (.c (.b false)))))]) .ret) .skip)) (.seq (.seq (.ops [
  (.mk (some 151) none (.pure (.mv (.t 25)))), 
  (.mk (some 152) none (.pure (.not (.t 151))))]) (.cond (.t 152) (.seq (.ops [
  (.mk (some 154) none (.pure (.mv (.t 23)))), 
  (.mk (some 155) none (.pure (.mv (.t 26)))), 
  (.mk (some 156) none (.pure (.bin .sub (.t 154) (.t 155)))), 
  (.mk (some 157) none (.pure (.mv (.t 24)))), 
  (.mk (some 158) none (.pure (.mv (.t 27)))), 
  (.mk (some 159) none (.pure (.bin .sub (.t 157) (.t 158)))), 
  (.mk (some 160) none (.call 35 [(.t 156), (.t 159)])), 
  (.mk (some 153) none (.pure (.mv (.t 160)))), 
  (.mk (some 161) none (.pure (.ext 0 (.t 153)))), 
  (.mk (some 162) none (.pure (.ext 1 (.t 153)))), 
  (.mk (some 28) none (.pure (.mv (.t 161)))), 
  (.mk (some 29) none (.pure (.mv (.t 162))))]) (.seq (.ops [
  (.mk (some 163) none (.pure (.mv (.t 29)))), 
  (.mk (some 164) none (.pure (.bin .eql (.t 163) (.c (.i .i64 0))))), 
  (.mk (some 165) none (.pure (.mv (.t 164)))), 
  (.mk (some 166) (some (165, true)) (.pure (.mv (.t 28)))), 
  (.mk (some 167) none (.pure (.pick (.t 165) (.t 166) (.c (.b false))))), 
  (.mk (some 168) none (.pure (.mv (.t 167)))), 
  (.mk (some 169) (some (168, true)) (.pure (.mv (.t 26)))), 
  (.mk (some 170) (some (168, true)) (.pure (.bin .geq (.t 169) (.c (.i .i64 0))))), 
  (.mk (some 171) none (.pure (.pick (.t 168) (.t 170) (.c (.b false))))), 
  (.mk (some 172) none (.pure (.mv (.t 171)))), 
  (.mk (some 173) (some (172, true)) (.pure (.mv (.t 27)))), 
  (.mk (some 174) (some (172, true)) (.pure (.bin .geq (.t 173) (.c (.i .i64 0))))), 
  (.mk (some 175) none (.pure (.pick (.t 172) (.t 174) (.c (.b false))))), 
  (.mk (some 176) none (.pure (.mv (.t 175)))), 
  (.mk (some 177) (some (176, true)) (.pure (.mv (.t 26)))), 
  (.mk (some 178) (some (176, true)) (.pure (.mv (.t 23)))), 
  (.mk (some 179) (some (176, true)) (.pure (.bin .leq (.t 177) (.t 178)))), 
  (.mk (some 180) none (.pure (.pick (.t 176) (.t 179) (.c (.b false))))), 
  (.mk (some 181) none (.pure (.mv (.t 180)))), 
  (.mk (some 182) (some (181, true)) (.pure (.mv (.t 27)))), 
  (.mk (some 183) (some (181, true)) (.pure (.mv (.t 24)))), 
  (.mk (some 184) (some (181, true)) (.pure (.bin .leq (.t 182) (.t 183)))), 
  (.mk (some 185) none (.pure (.pick (.t 181) (.t 184) (.c (.b false))))), 
  (.mk (some 186) none (.pure (.mv (.t 185)))), 
  (.mk (some 187) (some (186, true)) (.pure (.mv (.t 26)))), 
  (.mk (some 188) (some (186, true)) (.pure (.mv (.t 27)))), 
  (.mk (some 189) (some (186, true)) (.pure (.bin .add (.t 187) (.t 188)))), 
  (.mk (some 190) (some (186, true)) (.pure (.bin .gtr (.t 189) (.c (.i .i64 0))))), 
  (.mk (some 191) none (.pure (.pick (.t 186) (.t 190) (.c (.b false))))), 
  (.mk (some 192) none (.pure (.mv (.t 191)))), 
  (.mk (some 193) (some (192, true)) (.pure (.mv (.t 26)))), 
  (.mk (some 194) (some (192, true)) (.pure (.bin .eql (.t 193) (.c (.i .i64 0))))), 
  (.mk (some 195) (some (192, true)) (.pure (.mv (.t 194)))), 
  (.mk (some 196) (some (195, false)) (.pure (.mv (.t 27)))), 
  (.mk (some 197) (some (195, false)) (.pure (.bin .eql (.t 196) (.c (.i .i64 0))))), 
  (.mk (some 198) (some (192, true)) (.pure (.pick (.t 195) (.c (.b true)) (.t 197)))), 
  (.mk (some 199) (some (192, true)) (.pure (.mv (.t 198)))), 
  (.mk (some 200) (some (199, false)) (.pure (.mv (.t 26)))), 
  (.mk (some 201) (some (199, false)) (.pure (.mv (.t 27)))), 
  (.mk (some 202) (some (199, false)) (.pure (.bin .eql (.t 200) (.t 201)))), 
  (.mk (some 203) (some (192, true)) (.pure (.pick (.t 199) (.c (.b true)) (.t 202)))), 
  (.mk (some 204) none (.pure (.pick (.t 192) (.t 203) (.c (.b false))))), 
  (.mk (some 205) none (.pure (.mv (.t 204)))), 
  (.mk (some 206) (some (205, true)) (.call 18 [])), 
  (.mk (some 207) none (.pure (.pick (.t 205) (.t 206) (.c (.b false))))), 
  (.mk (some 10) none (.pure (.mv (.t 207))))]) .ret)) .skip)) (.seq (.seq (.ops [
  (.mk (some 208) none (.pure (.mv (.t 23)))), 
  (.mk (some 209) none (.pure (.bin .eql (.t 208) (.c (.i .i64 0))))), 
  (.mk (some 210) none (.pure (.mv (.t 209)))), 
  (.mk (some 211) (some (210, true)) (.pure (.mv (.t 24)))), 
  (.mk (some 212) (some (210, true)) (.pure (.bin .eql (.t 211) (.c (.i .i64 0))))), 
  (.mk (some 213) none (.pure (.pick (.t 210) (.t 212) (.c (.b false)))))]) (.cond (.t 213) (.seq (.ops [
  (.mk (some 214) none (.pure (.mv (.t 26)))), 
  (.mk (some 215) none (.pure (.mv (.t 27)))), 
  (.mk (some 216) none (.pure (.bin .add (.t 214) (.t 215)))), 
  (.mk (some 217) none (.pure (.bin .eql (.t 216) (.c (.i .i64 0))))), 
  (.mk (some 218) none (.pure (.mv (.t 217)))), 
  (.mk (some 219) (some (218, true)) (.call 18 [])), 
  (.mk (some 220) none (.pure (.pick (.t 218) (.t 219) (.c (.b false))))), 
  (.mk (some 10) none (.pure (.mv (.t 220))))]) .ret) .skip)) (.seq (.ops [
  (.mk (some 221) none (.pure (.mv (.t 3)))), 
  (.mk (some 222) none (.pure (.mv (.t 23)))), 
  (.mk (some 223) none (.pure (.mv (.t 24)))), 
  (.mk (some 224) none (.pure (.mx true (.t 222) (.t 223)))), 
  (.mk (some 225) none (.pure (.conv .u64 (.t 224)))), 
  (.mk (some 226) none (.pure (.bin .rem (.t 221) (.t 225)))), 
  (.mk (some 227) none (.pure (.conv .i64 (.t 226)))), 
  (.mk (some 228) none (.pure (.bin .add (.c (.i .i64 1)) (.t 227)))), 
  (.mk (some 30) none (.pure (.mv (.t 228))))]) (.seq (.seq (.ops [
  (.mk (some 229) none (.pure (.mv (.t 4)))), 
  (.mk (some 230) none (.pure (.bin .quo (.t 229) (.c (.i .u8 2))))), 
  (.mk (some 231) none (.pure (.bin .rem (.t 230) (.c (.i .u8 3)))))]) (.block 0 (.seq (.ops [
  (.mk (some 238) none (.pure (.bin .eql (.t 231) (.c (.i .u8 0))))), 
  (.mk (some 237) none (.pure (.mv (.t 238))))]) (.cond (.t 237) (.ops [
  (.mk (some 239) none (.pure (.mv (.t 30)))), 
  (.mk (some 240) none (.pure (.mv (.t 23)))), 
  (.mk (some 241) none (.pure (.mx false (.t 239) (.t 240)))), 
  (.mk (some 26) none (.pure (.mv (.t 241)))), 
  (.mk (some 27) none (.pure (.mv (.c (.i .i64 0)))))]) (.seq (.ops [
  (.mk (some 243) none (.pure (.bin .eql (.t 231) (.c (.i .u8 1))))), 
  (.mk (some 242) none (.pure (.mv (.t 243))))]) (.cond (.t 242) (.ops [
  (.mk (some 244) none (.pure (.mv (.t 30)))), 
  (.mk (some 245) none (.pure (.mv (.t 24)))), 
  (.mk (some 246) none (.pure (.mx false (.t 244) (.t 245)))), 
  (.mk (some 26) none (.pure (.mv (.c (.i .i64 0))))), 
  (.mk (some 27) none (.pure (.mv (.t 246))))]) (.seq (.ops [
  (.mk (some 232) none (.pure (.mv (.t 30)))), 
  (.mk (some 233) none (.pure (.mv (.t 23)))), 
  (.mk (some 234) none (.pure (.mv (.t 24)))), 
  (.mk (some 235) none (.pure (.mx3 false (.t 232) (.t 233) (.t 234)))), 
  (.mk (some 26) none (.pure (.mv (.t 235))))]) (.ops [
  (.mk (some 236) none (.pure (.mv (.t 26)))), 
  (.mk (some 27) none (.pure (.mv (.t 236))))])))))))) (.seq (.seq (.ops [
  (.mk (some 247) none (.pure (.mv (.t 26)))), 
  (.mk (some 248) none (.pure (.mv (.t 27)))), 
  (.mk (some 249) none (.pure (.bin .add (.t 247) (.t 248)))), 
  (.mk (some 250) none (.pure (.bin .eql (.t 249) (.c (.i .i64 0)))))]) (.cond (.t 250) (.seq (.ops [
  (.mk (some 251) none (.call 18 [])), 
  (.mk (some 10) none (.pure (.mv (.t 251))))]) .ret) .skip)) (.seq (.ops [
  (.mk (some 253) none (.pure (.mv (.t 23)))), 
  (.mk (some 254) none (.pure (.mv (.t 26)))), 
  (.mk (some 255) none (.pure (.bin .sub (.t 253) (.t 254)))), 
  (.mk (some 256) none (.pure (.mv (.t 24)))), 
  (.mk (some 257) none (.pure (.mv (.t 27)))), 
  (.mk (some 258) none (.pure (.bin .sub (.t 256) (.t 257)))), 
  (.mk (some 259) none (.call 35 [(.t 255), (.t 258)])), 
  (.mk (some 252) none (.pure (.mv (.t 259)))), 
  (.mk (some 260) none (.pure (.ext 0 (.t 252)))), 
  (.mk (some 261) none (.pure (.ext 1 (.t 252)))), 
  (.mk (some 31) none (.pure (.mv (.t 260)))), 
  (.mk (some 32) none (.pure (.mv (.t 261))))]) (.seq (.ops [
  (.mk (some 262) none (.pure (.mv (.t 32)))), 
  (.mk (some 263) none (.pure (.bin .eql (.t 262) (.c (.i .i64 0))))), 
  (.mk (some 264) none (.pure (.mv (.t 263)))), 
  (.mk (some 265) (some (264, true)) (.pure (.mv (.t 31)))), 
  (.mk (some 266) (some (264, true)) (.pure (.not (.t 265)))), 
  (.mk (some 267) none (.pure (.pick (.t 264) (.t 266) (.c (.b false))))), 
  (.mk (some 268) none (.pure (.mv (.t 267)))), 
  (.mk (some 269) (some (268, true)) (.call 18 [])), 
  (.mk (some 270) none (.pure (.pick (.t 268) (.t 269) (.c (.b false))))), 
  (.mk (some 10) none (.pure (.mv (.t 270))))]) .ret))))))))))))))))))))
def fn18 : AFn := (AFn.mk 75 [(.t 0)] (.seq (.ops [
  (.mk (some 0) none (.pure (.mv (.c (.b false)))))]) (.seq (.ops [
  (.mk (some 13) none (.call 19 [(.c (.i .i64 11))])), 
  (.mk (some 12) none (.pure (.mv (.t 13)))), 
  (.mk (some 14) none (.pure (.ext 0 (.t 12)))), 
  (.mk (some 15) none (.pure (.ext 1 (.t 12)))), 
  (.mk (some 1) none (.pure (.mv (.t 14)))), 
  (.mk (some 2) none (.pure (.mv (.t 15))))]) (.seq (.ops [
  (.mk (some 17) none (.call 25 [(.c (.i .i64 11))])), 
  (.mk (some 16) none (.pure (.mv (.t 17)))), 
  (.mk (some 18) none (.pure (.ext 0 (.t 16)))), 
  (.mk (some 19) none (.pure (.ext 1 (.t 16)))), 
  (.mk (some 3) none (.pure (.mv (.t 18)))), 
  (.mk (some 4) none (.pure (.mv (.t 19))))]) (.seq (.ops [
  (.mk (some 21) none (.call 29 [(.c (.i .i64 3)), (.c (.i .i64 4))])), 
  (.mk (some 20) none (.pure (.mv (.t 21)))), 
  (.mk (some 22) none (.pure (.ext 0 (.t 20)))), 
  (.mk (some 23) none (.pure (.ext 1 (.t 20)))), 
  (.mk (some 5) none (.pure (.mv (.t 22)))), 
  (.mk (some 6) none (.pure (.mv (.t 23))))]) (.seq (.ops [
  (.mk (some 25) none (.call 37 [(.c (.i .i64 2)), (.c (.i .i64 2))])), 
  (.mk (some 24) none (.pure (.mv (.t 25)))), 
  (.mk (some 26) none (.pure (.ext 0 (.t 24)))), 
  (.mk (some 27) none (.pure (.ext 1 (.t 24)))), 
  (.mk (some 28) none (.pure (.ext 2 (.t 24)))), 
  (.mk (some 7) none (.pure (.mv (.t 26)))), 
  (.mk (some 8) none (.pure (.mv (.t 27)))), 
  (.mk (some 9) none (.pure (.mv (.t 28))))]) (.seq (.ops [
  (.mk (some 30) none (.call 39 [(.c (.i .i64 11)), (.c (.i .i64 10))])), 
  (.mk (some 29) none (.pure (.mv (.t 30)))), 
  (.mk (some 31) none (.pure (.ext 0 (.t 29)))), 
  (.mk (some 32) none (.pure (.ext 1 (.t 29)))), 
  (.mk (some 10) none (.pure (.mv (.t 31)))), 
  (.mk (some 11) none (.pure (.mv (.t 32))))]) (.seq (.ops [
  (.mk (some 33) none (.pure (.mv (.t 2)))), 
  (.mk (some 34) none (.pure (.bin .eql (.t 33) (.c (.i .i64 0))))), 
  (.mk (some 35) none (.pure (.mv (.t 34)))), 
  (.mk (some 36) (some (35, true)) (.pure (.mv (.t 1)))), 
  (.mk (some 37) (some (35, true)) (.pure (.sbin .eql (.t 36) (.c (.s [49, 48, 49, 48, 48]))))), 
  (.mk (some 38) none (.pure (.pick (.t 35) (.t 37) (.c (.b false))))), 
  (.mk (some 39) none (.pure (.mv (.t 38)))), 
  (.mk (some 40) (some (39, true)) (.pure (.mv (.t 4)))), 
  (.mk (some 41) (some (39, true)) (.pure (.bin .eql (.t 40) (.c (.i .i64 0))))), 
  (.mk (some 42) none (.pure (.pick (.t 39) (.t 41) (.c (.b false))))), 
  (.mk (some 43) none (.pure (.mv (.t 42)))), 
  (.mk (some 44) (some (43, true)) (.pure (.mv (.t 3)))), 
  (.mk (some 45) (some (43, true)) (.pure (.bin .eql (.t 44) (.c (.i .i64 3))))), 
  (.mk (some 46) none (.pure (.pick (.t 43) (.t 45) (.c (.b false))))), 
  (.mk (some 47) none (.pure (.mv (.t 46)))), 
  (.mk (some 48) (some (47, true)) (.pure (.mv (.t 6)))), 
  (.mk (some 49) (some (47, true)) (.pure (.bin .eql (.t 48) (.c (.i .i64 0))))), 
  (.mk (some 50) none (.pure (.pick (.t 47) (.t 49) (.c (.b false))))), 
  (.mk (some 51) none (.pure (.mv (.t 50)))), 
  (.mk (some 52) (some (51, true)) (.pure (.mv (.t 5)))), 
  (.mk (some 53) (some (51, true)) (.pure (.bin .eql (.t 52) (.c (.i .i64 29))))), 
  (.mk (some 54) none (.pure (.pick (.t 51) (.t 53) (.c (.b false))))), 
  (.mk (some 55) none (.pure (.mv (.t 54)))), 
  (.mk (some 56) (some (55, true)) (.pure (.mv (.t 9)))), 
  (.mk (some 57) (some (55, true)) (.pure (.bin .eql (.t 56) (.c (.i .i64 0))))), 
  (.mk (some 58) none (.pure (.pick (.t 55) (.t 57) (.c (.b false))))), 
  (.mk (some 59) none (.pure (.mv (.t 58)))), 
  (.mk (some 60) (some (59, true)) (.pure (.mv (.t 7)))), 
  (.mk (some 61) (some (59, true)) (.pure (.bin .eql (.t 60) (.c (.i .i64 0))))), 
  (.mk (some 62) none (.pure (.pick (.t 59) (.t 61) (.c (.b false))))), 
  (.mk (some 63) none (.pure (.mv (.t 62)))), 
  (.mk (some 64) (some (63, true)) (.pure (.mv (.t 8)))), 
  (.mk (some 65) (some (63, true)) (.pure (.bin .eql (.t 64) (.c (.i .i64 1))))), 
  (.mk (some 66) none (.pure (.pick (.t 63) (.t 65) (.c (.b false))))), 
  (.mk (some 67) none (.pure (.mv (.t 66)))), 
  (.mk (some 68) (some (67, true)) (.pure (.mv (.t 11)))), 
  (.mk (some 69) (some (67, true)) (.pure (.bin .eql (.t 68) (.c (.i .i64 0))))), 
  (.mk (some 70) none (.pure (.pick (.t 67) (.t 69) (.c (.b false))))), 
  (.mk (some 71) none (.pure (.mv (.t 70)))), 
  (.mk (some 72) (some (71, true)) (.pure (.mv (.t 10)))), 
  (.mk (some 73) (some (71, true)) (.pure (.bin .eql (.t 72) (.c (.i .i64 3))))), 
  (.mk (some 74) none (.pure (.pick (.t 71) (.t 73) (.c (.b false))))), 
  (.mk (some 0) none (.pure (.mv (.t 74))))]) .ret))))))))
def fn19 : AFn := (AFn.mk 10 [(.t 2), (.t 3)] (.seq (.ops [
  (.mk (some 2) none (.pure (.mv (.c (.s []))))), 
  (.mk (some 3) none (.pure (.mv (.c (.i .i64 0)))))]) (.seq (.seq (.ops [
  (.mk (some 4) none (.pure (.mv (.t 0)))), 
  (.mk (some 5) none (.bsl 3 1 [(.i .i64 0)] 1 [((0, 1), (.t 4))])), 
  (.mk (some 6) none (.call 51 [(.t 5)])), 
  (.mk (some 7) none (.pure (.not (.t 6))))]) (.cond (.t 7) (.seq (.ops [
  (.mk (some 2) none (.pure (.mv (.c (.s []))))), 
  (.mk (some 3) none (.pure (.mv (.c (.i .i64 4)))))]) .ret) .skip)) (.seq (.ops [
  (.mk (some 8) none (.pure (.mv (.t 0)))), 
  (.mk (some 9) none (.call 52 [(.t 8)])), 
  (.mk (some 2) none (.pure (.mv (.t 9)))), 
  (.mk (some 3) none (.pure (.mv (.c (.i .i64 0)))))]) .ret))))
def fn25 : AFn := (AFn.mk 39 [(.t 2), (.t 3)] (.seq (.ops [
  (.mk (some 2) none (.pure (.mv (.c (.i .i64 0))))), 
  (.mk (some 3) none (.pure (.mv (.c (.i .i64 0)))))]) (.seq (.seq (.ops [
  (.mk (some 10) none (.pure (.mv (.t 0)))), 
  (.mk (some 11) none (.bsl 3 1 [(.i .i64 0)] 1 [((0, 1), (.t 10))])), 
  (.mk (some 12) none (.call 51 [(.t 11)])), 
  (.mk (some 13) none (.pure (.not (.t 12))))]) (.cond (.t 13) (.seq (.ops [
  (.mk (some 2) none (.pure (.mv (.c (.i .i64 0))))), 
  (.mk (some 3) none (.pure (.mv (.c (.i .i64 4)))))]) .ret) .skip)) (.seq (.ops [
  (.mk (some 4) none (.al 3 [(.i .i64 0)])), 
  (.mk (some 5) none (.al 3 [(.i .i64 0)])), 
  (.mk (some 6) none (.al 3 [(.i .i64 0)])), 
  (.mk none none (.st 1 (.t 4) (.c (.i .i64 1)))), 
  (.mk none none (.st 1 (.t 5) (.c (.i .i64 0)))), 
  (.mk none none (.st 1 (.t 6) (.c (.i .i64 1))))]) (.seq (.seq (.ops [
  (.mk (some 14) none (.pure (.mv (.t 0)))), 
  (.mk (some 15) none (.call 60 [(.t 14)])), 
  (.mk (some 16) none (.call 59 [(.t 15)]))]) (.block 0 (.rng (.t 16) [17, 18] (.ops [
  (.mk (some 8) none (.pure (.mv (.t 18))))]) (.block 1 (.seq (.ops [
  (.mk (some 19) none (.pure (.mv (.t 8)))), 
  (.mk (some 20) none (.ld true 1 (.t 6))), 
  (.mk (some 21) none (.pure (.bin .sub (.t 19) (.t 20)))), 
  (.mk (some 9) none (.pure (.mv (.t 21))))]) (.seq (.any [(
  (.mk (some 22) none (.ld true 1 (.t 4))), false), (
  (.mk (some 23) none (.ld true 1 (.t 5))), false), (
  (.mk (some 24) none (.pure (.bin .add (.t 22) (.t 23)))), false), (
  (.mk (some 25) none (.ld true 1 (.t 4))), false), (
  (.mk (some 26) none (.pure (.mv (.t 9)))), false), (
  (.mk (some 27) none (.pure (.bin .sub (.t 26) (.c (.i .i64 1))))), false), (
  (.mk (some 28) none (.pure (.bin .quo (.t 27) (.c (.i .i64 2))))), false), (
  (.mk (some 29) none (.pure (.bin .mul (.t 25) (.t 28)))), false), (
  (.mk (some 30) none (.ld true 1 (.t 5))), true), (
  (.mk (some 31) none (.pure (.mv (.t 9)))), false), (
  (.mk (some 32) none (.pure (.bin .quo (.t 31) (.c (.i .i64 2))))), false), (
  (.mk (some 33) none (.pure (.bin .mul (.t 30) (.t 32)))), false), (
  (.mk (some 34) none (.pure (.bin .add (.t 29) (.t 33)))), false), (
  (.mk none none (.st 1 (.t 4) (.t 24))), false), (
  (.mk none none (.st 1 (.t 5) (.t 34))), true)]) (.ops [
  (.mk (some 35) none (.pure (.mv (.t 8)))), 
  (.mk none none (.st 1 (.t 6) (.t 35)))]))))))) (.seq (.ops [
  (.mk (some 36) none (.ld true 1 (.t 4))), 
  (.mk (some 37) none (.ld true 1 (.t 5))), 
  (.mk (some 38) none (.pure (.bin .add (.t 36) (.t 37)))), 
  (.mk (some 2) none (.pure (.mv (.t 38)))), 
  (.mk (some 3) none (.pure (.mv (.c (.i .i64 0)))))]) .ret))))))
def fn29 : AFn := (AFn.mk 31 [(.t 4), (.t 5)] (.seq (.ops [
  (.mk (some 4) none (.pure (.mv (.c (.i .i64 0))))), 
  (.mk (some 5) none (.pure (.mv (.c (.i .i64 0)))))]) (.seq (.seq (.ops [
  (.mk (some 9) none (.pure (.mv (.t 0)))), 
  (.mk (some 10) none (.pure (.mv (.t 1)))), 
  (.mk (some 11) none (.bsl 3 1 [(.i .i64 0)] 2 [((0, 1), (.t 9)), ((1, 1), (.t 10))])), 
  (.mk (some 12) none (.call 51 [(.t 11)])), 
  (.mk (some 13) none (.pure (.not (.t 12))))]) (.cond (.t 13) (.seq (.ops [
  (.mk (some 4) none (.pure (.mv (.c (.i .i64 0))))), 
  (.mk (some 5) none (.pure (.mv (.c (.i .i64 4)))))]) .ret) .skip)) (.seq (.ops [
  (.mk (some 6) none (.pure (.mv (.c (.i .i64 0)))))]) (.seq (.seq (.ops [
  (.mk (some 14) none (.pure (.mv (.t 1)))), 
  (.mk (some 15) none (.call 60 [(.t 14)])), 
  (.mk (some 16) none (.pure (.len false (.t 15)))), 
  (.mk (some 17) none (.pure (.mv (.c (.i .i64 0)))))]) (.block 0 (.loop (.seq (.ops [
  (.mk (some 18) none (.pure (.bin .lss (.t 17) (.t 16))))]) (.seq (.cond (.t 18) .skip (.exit 0)) (.seq (.block 1 (.seq (.ops [
  (.mk (some 19) none (.pure (.ixS 1 (.t 15) (.t 17)))), 
  (.mk (some 20) none (.ld true 1 (.t 19))), 
  (.mk (some 8) none (.pure (.mv (.t 20))))]) (.ops [
  (.mk (some 21) none (.pure (.mv (.t 6)))), 
  (.mk (some 22) none (.pure (.mv (.t 0)))), 
  (.mk (some 23) none (.pure (.mv (.t 8)))), 
  (.mk (some 24) none (.call 63 [(.t 22), (.t 23)])), 
  (.mk (some 25) none (.pure (.bin .add (.t 21) (.t 24)))), 
  (.mk (some 26) none (.pure (.mx false (.t 25) (.c (.i .i64 1152921504606846977))))), 
  (.mk (some 6) none (.pure (.mv (.t 26))))]))) (.ops [
  (.mk (some 27) none (.pure (.bin .add (.t 17) (.c (.i .i64 1))))), 
  (.mk (some 17) none (.pure (.mv (.t 27))))]))))))) (.seq (.seq (.ops [
  (.mk (some 28) none (.pure (.mv (.t 6)))), 
  (.mk (some 29) none (.pure (.bin .gtr (.t 28) (.c (.i .i64 1152921504606846976)))))]) (.cond (.t 29) (.seq (.ops [
  (.mk (some 4) none (.pure (.mv (.c (.i .i64 0))))), 
  (.mk (some 5) none (.pure (.mv (.c (.i .i64 4)))))]) .ret) .skip)) (.seq (.ops [
  (.mk (some 30) none (.pure (.mv (.t 6)))), 
  (.mk (some 4) none (.pure (.mv (.t 30)))), 
  (.mk (some 5) none (.pure (.mv (.c (.i .i64 0)))))]) .ret)))))))
def fn33 : AFn := (AFn.mk 18 [(.t 2), (.t 3), (.t 4)] (.seq (.ops [
  (.mk (some 2) none (.pure (.mv (.c (.i .i64 0))))), 
  (.mk (some 3) none (.pure (.mv (.c (.i .i64 0))))), 
  (.mk (some 4) none (.pure (.mv (.c (.i .i64 0)))))]) (.seq (.seq (.ops [
  (.mk (some 6) none (.pure (.mv (.t 0)))), 
  (.mk (some 7) none (.pure (.bin .lss (.t 6) (.c (.i .i64 0))))), 
  (.mk (some 8) none (.pure (.mv (.t 7)))), 
  (.mk (some 9) (some (8, false)) (.pure (.mv (.t 0)))), 
  (.mk (some 10) (some (8, false)) (.pure (.bin .gtr (.t 9) (.c (.i .i64 288230376151711744))))), 
  (.mk (some 11) none (.pure (.pick (.t 8) (.c (.b true)) (.t 10))))]) (.cond (.t 11) (.seq (.ops [
  (.mk (some 2) none (.pure (.mv (.c (.i .i64 0))))), 
  (.mk (some 3) none (.pure (.mv (.c (.i .i64 0))))), 
  (.mk (some 4) none (.pure (.mv (.c (.i .i64 4)))))]) .ret) .skip)) (.seq (.ops [
  (.mk (some 12) none (.pure (.mv (.t 0)))), 
  (.mk (some 13) none (.call 66 [(.t 12)])), 
  (.mk (some 5) none (.pure (.mv (.t 13))))]) (.seq (.ops [
  (.mk (some 14) none (.pure (.mv (.t 5)))), 
  (.mk (some 15) none (.pure (.mv (.t 5)))), 
  (.mk (some 16) none (.pure (.mv (.t 0)))), 
  (.mk (some 17) none (.pure (.bin .add (.t 15) (.t 16)))), 
  (.mk (some 2) none (.pure (.mv (.t 14)))), 
  (.mk (some 3) none (.pure (.mv (.t 17)))), 
  (.mk (some 4) none (.pure (.mv (.c (.i .i64 0)))))]) .ret)))))
def fn35 : AFn := (AFn.mk 15 [(.t 4), (.t 5)] (.seq (.ops [
  (.mk (some 4) none (.pure (.mv (.c (.b false))))), 
  (.mk (some 5) none (.pure (.mv (.c (.i .i64 0)))))]) (.seq (.seq (.ops [
  (.mk (some 6) none (.pure (.mv (.t 0)))), 
  (.mk (some 7) none (.pure (.mv (.t 1)))), 
  (.mk (some 8) none (.bsl 3 1 [(.i .i64 0)] 2 [((0, 1), (.t 6)), ((1, 1), (.t 7))])), 
  (.mk (some 9) none (.call 51 [(.t 8)])), 
  (.mk (some 10) none (.pure (.not (.t 9))))]) (.cond (.t 10) (.seq (.ops [
  (.mk (some 4) none (.pure (.mv (.c (.b false))))), 
  (.mk (some 5) none (.pure (.mv (.c (.i .i64 4)))))]) .ret) .skip)) (.seq (.ops [
  (.mk (some 11) none (.pure (.mv (.t 0)))), 
  (.mk (some 12) none (.call 68 [(.t 11)])), 
  (.mk (some 13) none (.pure (.mv (.t 1)))), 
  (.mk (some 14) none (.pure (.bin .eql (.t 12) (.t 13)))), 
  (.mk (some 4) none (.pure (.mv (.t 14)))), 
  (.mk (some 5) none (.pure (.mv (.c (.i .i64 0)))))]) .ret))))
def fn37 : AFn := (AFn.mk 56 [(.t 4), (.t 5), (.t 6)] (.seq (.ops [
  (.mk (some 4) none (.pure (.mv (.c (.i .i64 0))))), 
  (.mk (some 5) none (.pure (.mv (.c (.i .i64 0))))), 
  (.mk (some 6) none (.pure (.mv (.c (.i .i64 0)))))]) (.seq (.seq (.ops [
  (.mk (some 9) none (.pure (.mv (.t 0)))), 
  (.mk (some 10) none (.pure (.mv (.t 1)))), 
  (.mk (some 11) none (.bsl 3 1 [(.i .i64 0)] 2 [((0, 1), (.t 9)), ((1, 1), (.t 10))])), 
  (.mk (some 12) none (.call 51 [(.t 11)])), 
  (.mk (some 13) none (.pure (.not (.t 12))))]) (.cond (.t 13) (.seq (.ops [
  (.mk (some 4) none (.pure (.mv (.c (.i .i64 0))))), 
  (.mk (some 5) none (.pure (.mv (.c (.i .i64 0))))), 
  (.mk (some 6) none (.pure (.mv (.c (.i .i64 4)))))]) .ret) .skip)) (.seq (.seq (.ops [
  (.mk (some 14) none (.pure (.mv (.t 0)))), 
  (.mk (some 15) none (.call 68 [(.t 14)])), 
  (.mk (some 16) none (.pure (.mv (.t 1)))), 
  (.mk (some 17) none (.pure (.bin .eql (.t 15) (.t 16))))]) (.cond (.t 17) (.seq (.ops [
  (.mk (some 4) none (.pure (.mv (.c (.i .i64 0))))), 
  (.mk (some 5) none (.pure (.mv (.c (.i .i64 0))))), 
  (.mk (some 6) none (.pure (.mv (.c (.i .i64 10)))))]) .ret) .skip)) (.seq (.seq (.ops [
  (.mk (some 18) none (.pure (.mv (.t 0)))), 
  (.mk (some 19) none (.call 68 [(.t 18)])), 
  (.mk (some 20) none (.pure (.mv (.t 1)))), 
  (.mk (some 21) none (.pure (.bin .lss (.t 19) (.t 20))))]) (.cond (.t 21) (.seq (.ops [
  (.mk (some 22) none (.pure (.mv (.t 1)))), 
  (.mk (some 23) none (.pure (.mv (.t 0)))), 
  (.mk (some 24) none (.call 68 [(.t 23)])), 
  (.mk (some 25) none (.pure (.bin .sub (.t 22) (.t 24)))), 
  (.mk (some 4) none (.pure (.mv (.c (.i .i64 0))))), 
  (.mk (some 5) none (.pure (.mv (.t 25)))), 
  (.mk (some 6) none (.pure (.mv (.c (.i .i64 0)))))]) .ret) .skip)) (.seq (.ops [
  (.mk (some 26) none (.pure (.mv (.t 0)))), 
  (.mk (some 27) none (.pure (.mv (.t 1)))), 
  (.mk (some 28) none (.call 68 [(.t 27)])), 
  (.mk (some 29) none (.pure (.bin .sub (.t 26) (.t 28)))), 
  (.mk (some 7) none (.pure (.mv (.t 29))))]) (.seq (.ops [
  (.mk (some 30) none (.pure (.mv (.t 0)))), 
  (.mk (some 31) none (.pure (.mv (.t 1)))), 
  (.mk (some 32) none (.pure (.mx false (.t 30) (.t 31)))), 
  (.mk (some 33) none (.pure (.mv (.t 0)))), 
  (.mk (some 34) none (.pure (.mv (.t 1)))), 
  (.mk (some 35) none (.pure (.mx true (.t 33) (.t 34)))), 
  (.mk (some 36) none (.pure (.mv (.t 0)))), 
  (.mk (some 37) none (.pure (.mv (.t 1)))), 
  (.mk (some 38) none (.pure (.mx false (.t 36) (.t 37)))), 
  (.mk (some 39) none (.pure (.bin .sub (.t 35) (.t 38)))), 
  (.mk (some 40) none (.call 66 [(.t 39)])), 
  (.mk (some 41) none (.pure (.bin .sub (.t 32) (.t 40)))), 
  (.mk (some 8) none (.pure (.mv (.t 41))))]) (.seq (.seq (.ops [
  (.mk (some 42) none (.pure (.mv (.t 8)))), 
  (.mk (some 43) none (.pure (.bin .gtr (.t 42) (.c (.i .i64 0))))), 
  (.mk (some 44) none (.pure (.mv (.t 43)))), 
  (.mk (some 45) (some (44, true)) (.pure (.mv (.t 7)))), 
  (.mk (some 46) (some (44, true)) (.pure (.bin .lss (.t 45) (.c (.i .i64 0))))), 
  (.mk (some 47) (some (44, true)) (.pure (.mv (.t 46)))), 
  (.mk (some 48) (some (47, false)) (.pure (.mv (.t 8)))), 
  (.mk (some 49) (some (47, false)) (.pure (.mv (.t 7)))), 
  (.mk (some 50) (some (47, false)) (.pure (.bin .lss (.t 48) (.t 49)))), 
  (.mk (some 51) (some (44, true)) (.pure (.pick (.t 47) (.c (.b true)) (.t 50)))), 
  (.mk (some 52) none (.pure (.pick (.t 44) (.t 51) (.c (.b false)))))]) (.cond (.t 52) (.seq (.ops [
  (.mk (some 53) none (.pure (.mv (.t 8)))), 
  (.mk (some 54) none (.pure (.mv (.t 8)))), 
  (.mk (some 4) none (.pure (.mv (.t 53)))), 
  (.mk (some 5) none (.pure (.mv (.t 54)))), 
  (.mk (some 6) none (.pure (.mv (.c (.i .i64 0)))))]) .ret) .skip)) (.seq (.ops [
  (.mk (some 55) none (.pure (.mv (.t 7)))), 
  (.mk (some 4) none (.pure (.mv (.t 55)))), 
  (.mk (some 5) none (.pure (.mv (.c (.i .i64 0))))), 
  (.mk (some 6) none (.pure (.mv (.c (.i .i64 0)))))]) .ret)))))))))
def fn39 : AFn := (AFn.mk 22 [(.t 4), (.t 5)] (.seq (.ops [
  (.mk (some 4) none (.pure (.mv (.c (.i .i64 0))))), 
  (.mk (some 5) none (.pure (.mv (.c (.i .i64 0)))))]) (.seq (.seq (.ops [
  (.mk (some 7) none (.pure (.mv (.t 0)))), 
  (.mk (some 8) none (.bsl 3 1 [(.i .i64 0)] 1 [((0, 1), (.t 7))])), 
  (.mk (some 9) none (.call 51 [(.t 8)])), 
  (.mk (some 10) none (.pure (.not (.t 9))))]) (.cond (.t 10) (.seq (.ops [
  (.mk (some 4) none (.pure (.mv (.c (.i .i64 0))))), 
  (.mk (some 5) none (.pure (.mv (.c (.i .i64 4)))))]) .ret) .skip)) (.seq (.seq (.ops [
  (.mk (some 11) none (.pure (.mv (.t 1)))), 
  (.mk (some 12) none (.pure (.bin .lss (.t 11) (.c (.i .i64 1)))))]) (.cond (.t 12) (.seq (.ops [
  (.mk (some 4) none (.pure (.mv (.c (.i .i64 0))))), 
  (.mk (some 5) none (.pure (.mv (.c (.i .i64 2)))))]) .ret) .skip)) (.seq (.seq (.ops [
  (.mk (some 13) none (.pure (.mv (.t 0)))), 
  (.mk (some 14) none (.pure (.bin .eql (.t 13) (.c (.i .i64 0)))))]) (.cond (.t 14) (.seq (.ops [
  (.mk (some 4) none (.pure (.mv (.c (.i .i64 0))))), 
  (.mk (some 5) none (.pure (.mv (.c (.i .i64 10)))))]) .ret) .skip)) (.seq (.ops [
  (.mk (some 15) none (.pure (.mv (.t 0)))), 
  (.mk (some 16) none (.call 72 [(.t 15)])), 
  (.mk (some 17) none (.call 71 [(.t 16)])), 
  (.mk (some 6) none (.pure (.mv (.t 17))))]) (.seq (.seq (.ops [
  (.mk (some 18) none (.pure (.mv (.t 6)))), 
  (.mk (some 19) none (.pure (.mv (.t 1)))), 
  (.mk (some 20) none (.pure (.bin .gtr (.t 18) (.t 19))))]) (.cond (.t 20) (.seq (.ops [
  (.mk (some 4) none (.pure (.mv (.c (.i .i64 0))))), 
  (.mk (some 5) none (.pure (.mv (.c (.i .i64 10)))))]) .ret) .skip)) (.seq (.ops [
  (.mk (some 21) none (.pure (.mv (.t 6)))), 
  (.mk (some 4) none (.pure (.mv (.t 21)))), 
  (.mk (some 5) none (.pure (.mv (.c (.i .i64 0)))))]) .ret))))))))
def fn45 : AFn := (AFn.mk 6 [(.t 2)] (.seq (.ops [
  (.mk (some 2) none (.pure (.mv (.c (.i .i64 0)))))]) (.seq (.ops [
  (.mk (some 3) none (.pure (.mv (.t 0)))), 
  (.mk (some 4) none (.pure (.bin .rem (.t 3) (.c (.i .u64 1152921504606846977))))), 
  (.mk (some 5) none (.pure (.conv .i64 (.t 4)))), 
  (.mk (some 2) none (.pure (.mv (.t 5))))]) .ret)))
def fn47 : AFn := (AFn.mk 6 [(.t 2)] (.seq (.ops [
  (.mk (some 2) none (.pure (.mv (.c (.i .i64 0)))))]) (.seq (.ops [
  (.mk (some 3) none (.pure (.mv (.t 0)))), 
  (.mk (some 4) none (.pure (.bin .rem (.t 3) (.c (.i .u64 33554432))))), 
  (.mk (some 5) none (.pure (.conv .i64 (.t 4)))), 
  (.mk (some 2) none (.pure (.mv (.t 5))))]) .ret)))
def fn48 : AFn := (AFn.mk 21 [(.t 2)] (.seq (.ops [
  (.mk (some 2) none (.pure (.mv (.c (.i .i64 0)))))]) (.seq (.ops [
  (.mk (some 3) none (.pure (.mv (.c (.i .i64 0)))))]) (.seq (.block 0 (.loop (.seq (.seq (.ops [
  (.mk (some 4) none (.pure (.mv (.t 3)))), 
  (.mk (some 5) none (.pure (.mv (.t 0)))), 
  (.mk (some 6) none (.pure (.len true (.t 5)))), 
  (.mk (some 7) none (.pure (.bin .lss (.t 4) (.t 6)))), 
  (.mk (some 8) none (.pure (.mv (.t 7)))), 
  (.mk (some 9) (some (8, true)) (.pure (.mv (.t 0)))), 
  (.mk (some 10) (some (8, true)) (.pure (.mv (.t 0)))), 
  (.mk (some 11) (some (8, true)) (.pure (.len true (.t 10)))), 
  (.mk (some 12) (some (8, true)) (.pure (.bin .sub (.t 11) (.c (.i .i64 1))))), 
  (.mk (some 13) (some (8, true)) (.pure (.mv (.t 3)))), 
  (.mk (some 14) (some (8, true)) (.pure (.bin .sub (.t 12) (.t 13)))), 
  (.mk (some 15) (some (8, true)) (.pure (.ixStr (.t 9) (.t 14)))), 
  (.mk (some 16) (some (8, true)) (.pure (.bin .eql (.t 15) (.c (.i .u8 48))))), 
  (.mk (some 17) none (.pure (.pick (.t 8) (.t 16) (.c (.b false)))))]) (.cond (.t 17) .skip (.exit 0))) (.block 1 (.ops [
  (.mk (some 18) none (.pure (.mv (.t 3)))), 
  (.mk (some 19) none (.pure (.bin .add (.t 18) (.c (.i .i64 1))))), 
  (.mk (some 3) none (.pure (.mv (.t 19))))]))))) (.seq (.ops [
  (.mk (some 20) none (.pure (.mv (.t 3)))), 
  (.mk (some 2) none (.pure (.mv (.t 20))))]) .ret)))))
def fn51 : AFn := (AFn.mk 18 [(.t 2)] (.seq (.ops [
  (.mk (some 2) none (.pure (.mv (.c (.b false)))))]) (.seq (.seq (.ops [
  (.mk (some 5) none (.pure (.mv (.t 0)))), 
  (.mk (some 6) none (.pure (.len false (.t 5)))), 
  (.mk (some 7) none (.pure (.mv (.c (.i .i64 0)))))]) (.block 0 (.loop (.seq (.ops [
  (.mk (some 8) none (.pure (.bin .lss (.t 7) (.t 6))))]) (.seq (.cond (.t 8) .skip (.exit 0)) (.seq (.block 1 (.seq (.ops [
  (.mk (some 9) none (.pure (.ixS 1 (.t 5) (.t 7)))), 
  (.mk (some 10) none (.ld true 1 (.t 9))), 
  (.mk (some 4) none (.pure (.mv (.t 10))))]) (.seq (.ops [
  (.mk (some 11) none (.pure (.mv (.t 4)))), 
  (.mk (some 12) none (.pure (.bin .lss (.t 11) (.c (.i .i64 0))))), 
  (.mk (some 13) none (.pure (.mv (.t 12)))), 
  (.mk (some 14) (some (13, false)) (.pure (.mv (.t 4)))), 
  (.mk (some 15) (some (13, false)) (.pure (.bin .gtr (.t 14) (.c (.i .i64 1152921504606846976))))), 
  (.mk (some 16) none (.pure (.pick (.t 13) (.c (.b true)) (.t 15))))]) (.cond (.t 16) (.seq (.ops [
  (.mk (some 2) none (.pure (.mv (.c (.b false)))))]) .ret) .skip)))) (.ops [
  (.mk (some 17) none (.pure (.bin .add (.t 7) (.c (.i .i64 1))))), 
  (.mk (some 7) none (.pure (.mv (.t 17))))]))))))) (.seq (.ops [
  (.mk (some 2) none (.pure (.mv (.c (.b true)))))]) .ret))))
def fn52 : AFn := (AFn.mk 35 [(.t 2)] (.seq (.ops [
  (.mk (some 2) none (.pure (.mv (.c (.s [])))))]) (.seq (.seq (.ops [
  (.mk (some 8) none (.pure (.mv (.t 0)))), 
  (.mk (some 9) none (.pure (.bin .eql (.t 8) (.c (.i .i64 0)))))]) (.cond (.t 9) (.seq (.ops [
  (.mk (some 2) none (.pure (.mv (.c (.s [48])))))]) .ret) .skip)) (.seq (.ops [
  (.mk (some 10) none (.pure (.mv (.t 0)))), 
  (.mk (some 11) none (.call 60 [(.t 10)])), 
  (.mk (some 3) none (.pure (.mv (.t 11))))]) (.seq (.ops [
  (.mk (some 12) none (.pure (.mv (.t 3)))), 
  (.mk (some 13) none (.pure (.ixS 1 (.t 12) (.c (.i .i64 0))))), 
  (.mk (some 14) none (.ld true 1 (.t 13))), 
  (.mk (some 4) none (.pure (.mv (.t 14))))]) (.seq (.ops [
  (.mk (some 15) none (.bsl 5 1 [(.i .u8 0)] 1 [((0, 1), (.c (.i .u8 48)))])), 
  (.mk (some 16) none (.mks (.t 15))), 
  (.mk (some 17) none (.pure (.mv (.t 4)))), 
  (.mk (some 18) none (.pure (.bin .sub (.t 17) (.c (.i .i64 2))))), 
  (.mk (some 19) none (.pure (.bin .add (.t 18) (.c (.i .i64 1))))), 
  (.mk (some 20) none (.call 73 [(.t 16), (.t 19)])), 
  (.mk (some 5) none (.pure (.mv (.t 20))))]) (.seq (.seq (.ops [
  (.mk (some 21) none (.pure (.mv (.t 3)))), 
  (.mk (some 22) none (.pure (.len false (.t 21)))), 
  (.mk (some 23) none (.pure (.mv (.c (.i .i64 0)))))]) (.block 0 (.loop (.seq (.ops [
  (.mk (some 24) none (.pure (.bin .lss (.t 23) (.t 22))))]) (.seq (.cond (.t 24) .skip (.exit 0)) (.seq (.block 1 (.seq (.ops [
  (.mk (some 25) none (.pure (.ixS 1 (.t 21) (.t 23)))), 
  (.mk (some 26) none (.ld true 1 (.t 25))), 
  (.mk (some 7) none (.pure (.mv (.t 26))))]) (.ops [
  (.mk (some 27) none (.pure (.mv (.t 5)))), 
  (.mk (some 28) none (.pure (.mv (.t 4)))), 
  (.mk (some 29) none (.pure (.mv (.t 7)))), 
  (.mk (some 30) none (.pure (.bin .sub (.t 28) (.t 29)))), 
  (.mk (some 31) none (.pure (.ixS 1 (.t 27) (.t 30)))), 
  (.mk none none (.st 1 (.t 31) (.c (.i .u8 49))))]))) (.ops [
  (.mk (some 32) none (.pure (.bin .add (.t 23) (.c (.i .i64 1))))), 
  (.mk (some 23) none (.pure (.mv (.t 32))))]))))))) (.seq (.ops [
  (.mk (some 33) none (.pure (.mv (.t 5)))), 
  (.mk (some 34) none (.bts (.t 33))), 
  (.mk (some 2) none (.pure (.mv (.t 34))))]) .ret))))))))
def fn59 : AFn := (AFn.mk 4 [(.t 2)] (.seq (.ops [
  (.mk (some 1) none (.bx 50 1 (.t 0))), 
  (.mk (some 2) none (.pure (.mv (.c .nfn))))]) (.seq (.ops [
  (.mk (some 3) none (.pure (.mkfn 75 [] [(.t 1)]))), 
  (.mk (some 2) none (.pure (.mv (.t 3))))]) .ret)))
def fn60 : AFn := (AFn.mk 28 [(.t 2)] (.seq (.ops [
  (.mk (some 2) none (.pure (.mv (.c .nsl))))]) (.seq (.ops [
  (.mk (some 3) none (.pure (.mv (.c .nsl))))]) (.seq (.ops [
  (.mk (some 7) none (.call 71 [(.c (.i .i64 88))])), 
  (.mk (some 8) none (.call 71 [(.c (.i .i64 87))])), 
  (.mk (some 4) none (.pure (.mv (.t 7)))), 
  (.mk (some 5) none (.pure (.mv (.t 8))))]) (.seq (.seq (.ops [
  (.mk (some 6) none (.pure (.mv (.c (.i .i64 88)))))]) (.block 0 (.loop (.seq (.seq (.ops [
  (.mk (some 9) none (.pure (.mv (.t 0)))), 
  (.mk (some 10) none (.pure (.bin .gtr (.t 9) (.c (.i .i64 0)))))]) (.cond (.t 10) .skip (.exit 0))) (.seq (.block 1 (.seq (.seq (.ops [
  (.mk (some 13) none (.pure (.mv (.t 4)))), 
  (.mk (some 14) none (.pure (.mv (.t 0)))), 
  (.mk (some 15) none (.pure (.bin .leq (.t 13) (.t 14))))]) (.cond (.t 15) (.seq (.ops [
  (.mk (some 16) none (.pure (.mv (.t 3)))), 
  (.mk (some 17) none (.pure (.mv (.t 6)))), 
  (.mk (some 18) none (.bsl 3 1 [(.i .i64 0)] 1 [((0, 1), (.t 17))])), 
  (.mk (some 19) none (.app 3 1 8 [(.i .i64 0)] (.t 16) (.t 18))), 
  (.mk (some 3) none (.pure (.mv (.t 19))))]) (.ops [
  (.mk (some 20) none (.pure (.mv (.t 0)))), 
  (.mk (some 21) none (.pure (.mv (.t 4)))), 
  (.mk (some 22) none (.pure (.bin .sub (.t 20) (.t 21)))), 
  (.mk (some 0) none (.pure (.mv (.t 22))))])) .skip)) (.ops [
  (.mk (some 23) none (.pure (.mv (.t 5)))), 
  (.mk (some 24) none (.pure (.mv (.t 4)))), 
  (.mk (some 25) none (.pure (.mv (.t 5)))), 
  (.mk (some 26) none (.pure (.bin .sub (.t 24) (.t 25)))), 
  (.mk (some 4) none (.pure (.mv (.t 23)))), 
  (.mk (some 5) none (.pure (.mv (.t 26))))]))) (.ops [
  (.mk (some 11) none (.pure (.mv (.t 6)))), 
  (.mk (some 12) none (.pure (.bin .sub (.t 11) (.c (.i .i64 1))))), 
  (.mk (some 6) none (.pure (.mv (.t 12))))])))))) (.seq (.ops [
  (.mk (some 27) none (.pure (.mv (.t 3)))), 
  (.mk (some 2) none (.pure (.mv (.t 27))))]) .ret))))))
def fn63 : AFn := (AFn.mk 24 [(.t 4)] (.seq (.ops [
  (.mk (some 4) none (.pure (.mv (.c (.i .i64 0)))))]) (.seq (.ops [
  (.mk (some 5) none (.pure (.mv (.c (.i .i64 0)))))]) (.seq (.seq (.ops [
  (.mk (some 8) none (.pure (.mv (.t 0)))), 
  (.mk (some 9) none (.call 60 [(.t 8)])), 
  (.mk (some 10) none (.pure (.len false (.t 9)))), 
  (.mk (some 11) none (.pure (.mv (.c (.i .i64 0)))))]) (.block 0 (.loop (.seq (.ops [
  (.mk (some 12) none (.pure (.bin .lss (.t 11) (.t 10))))]) (.seq (.cond (.t 12) .skip (.exit 0)) (.seq (.block 1 (.seq (.ops [
  (.mk (some 13) none (.pure (.ixS 1 (.t 9) (.t 11)))), 
  (.mk (some 14) none (.ld true 1 (.t 13))), 
  (.mk (some 7) none (.pure (.mv (.t 14))))]) (.ops [
  (.mk (some 15) none (.pure (.mv (.t 5)))), 
  (.mk (some 16) none (.pure (.mv (.t 7)))), 
  (.mk (some 17) none (.pure (.mv (.t 1)))), 
  (.mk (some 18) none (.pure (.bin .add (.t 16) (.t 17)))), 
  (.mk (some 19) none (.call 71 [(.t 18)])), 
  (.mk (some 20) none (.pure (.bin .add (.t 15) (.t 19)))), 
  (.mk (some 21) none (.pure (.mx false (.t 20) (.c (.i .i64 1152921504606846977))))), 
  (.mk (some 5) none (.pure (.mv (.t 21))))]))) (.ops [
  (.mk (some 22) none (.pure (.bin .add (.t 11) (.c (.i .i64 1))))), 
  (.mk (some 11) none (.pure (.mv (.t 22))))]))))))) (.seq (.ops [
  (.mk (some 23) none (.pure (.mv (.t 5)))), 
  (.mk (some 4) none (.pure (.mv (.t 23))))]) .ret)))))
def fn66 : AFn := (AFn.mk 9 [(.t 2)] (.seq (.ops [
  (.mk (some 2) none (.pure (.mv (.c (.i .i64 0)))))]) (.seq (.seq (.ops [
  (.mk (some 3) none (.pure (.mv (.t 0)))), 
  (.mk (some 4) none (.pure (.bin .eql (.t 3) (.c (.i .i64 0)))))]) (.cond (.t 4) (.seq (.ops [
  (.mk (some 2) none (.pure (.mv (.c (.i .i64 0)))))]) .ret) .skip)) (.seq (.ops [
  (.mk (some 5) none (.pure (.mv (.t 0)))), 
  (.mk (some 6) none (.pure (.bin .sub (.t 5) (.c (.i .i64 1))))), 
  (.mk (some 7) none (.call 63 [(.t 6), (.c (.i .i64 1))])), 
  (.mk (some 8) none (.pure (.bin .add (.t 7) (.c (.i .i64 1))))), 
  (.mk (some 2) none (.pure (.mv (.t 8))))]) .ret))))
def fn68 : AFn := (AFn.mk 16 [(.t 2)] (.seq (.ops [
  (.mk (some 2) none (.pure (.mv (.c (.i .i64 0)))))]) (.seq (.seq (.ops [
  (.mk (some 4) none (.pure (.mv (.t 0)))), 
  (.mk (some 5) none (.pure (.bin .eql (.t 4) (.c (.i .i64 0)))))]) (.cond (.t 5) (.seq (.ops [
  (.mk (some 2) none (.pure (.mv (.c (.i .i64 0)))))]) .ret) .skip)) (.seq (.seq (.ops [
  (.mk (some 6) none (.pure (.mv (.t 0)))), 
  (.mk (some 7) none (.call 72 [(.t 6)])), 
  (.mk (some 8) none (.pure (.bin .sub (.t 7) (.c (.i .i64 2))))), 
  (.mk (some 3) none (.pure (.mv (.t 8))))]) (.seq (.ops [
  (.mk (some 9) none (.pure (.mv (.t 3)))), 
  (.mk (some 10) none (.pure (.bin .rem (.t 9) (.c (.i .i64 2))))), 
  (.mk (some 11) none (.pure (.bin .eql (.t 10) (.c (.i .i64 0)))))]) (.cond (.t 11) (.seq (.ops [
  (.mk (some 12) none (.pure (.mv (.t 0)))), 
  (.mk (some 13) none (.call 63 [(.t 12), (.c (.i .i64 1))])), 
  (.mk (some 2) none (.pure (.mv (.t 13))))]) .ret) .skip))) (.seq (.ops [
  (.mk (some 14) none (.pure (.mv (.t 0)))), 
  (.mk (some 15) none (.call 63 [(.t 14), (.c (.i .i64 (-1)))])), 
  (.mk (some 2) none (.pure (.mv (.t 15))))]) .ret)))))
def fn71 : AFn := (AFn.mk 25 [(.t 2)] (.seq (.ops [
  (.mk (some 2) none (.pure (.mv (.c (.i .i64 0)))))]) (.seq (.ops [
  (.mk (some 3) none (.pure (.mv (.c (.i .i64 0))))), 
  (.mk (some 4) none (.pure (.mv (.c (.i .i64 1)))))]) (.seq (.seq (.ops [
  (.mk (some 5) none (.pure (.mv (.t 0)))), 
  (.mk (some 6) none (.pure (.mx false (.t 5) (.c (.i .i64 89))))), 
  (.mk (some 7) none (.pure (.mv (.c (.i .i64 0)))))]) (.block 0 (.loop (.seq (.ops [
  (.mk (some 8) none (.pure (.bin .lss (.t 7) (.t 6))))]) (.seq (.cond (.t 8) .skip (.exit 0)) (.seq (.block 1 (.ops [
  (.mk (some 9) none (.pure (.mv (.t 4)))), 
  (.mk (some 10) none (.pure (.mv (.t 3)))), 
  (.mk (some 11) none (.pure (.mv (.t 4)))), 
  (.mk (some 12) none (.pure (.bin .add (.t 10) (.t 11)))), 
  (.mk (some 13) none (.pure (.mx false (.t 12) (.c (.i .i64 1152921504606846977))))), 
  (.mk (some 3) none (.pure (.mv (.t 9)))), 
  (.mk (some 4) none (.pure (.mv (.t 13))))])) (.ops [
  (.mk (some 14) none (.pure (.bin .add (.t 7) (.c (.i .i64 1))))), 
  (.mk (some 7) none (.pure (.mv (.t 14))))]))))))) (.seq (.seq (.ops [
  (.mk (some 15) none (.pure (.mv (.t 0)))), 
  (.mk (some 16) none (.pure (.neg (.t 15)))), 
  (.mk (some 17) none (.pure (.mv (.c (.i .i64 0)))))]) (.block 2 (.loop (.seq (.ops [
  (.mk (some 18) none (.pure (.bin .lss (.t 17) (.t 16))))]) (.seq (.cond (.t 18) .skip (.exit 2)) (.seq (.block 3 (.ops [
  (.mk (some 19) none (.pure (.mv (.t 4)))), 
  (.mk (some 20) none (.pure (.mv (.t 3)))), 
  (.mk (some 21) none (.pure (.bin .sub (.t 19) (.t 20)))), 
  (.mk (some 22) none (.pure (.mv (.t 3)))), 
  (.mk (some 3) none (.pure (.mv (.t 21)))), 
  (.mk (some 4) none (.pure (.mv (.t 22))))])) (.ops [
  (.mk (some 23) none (.pure (.bin .add (.t 17) (.c (.i .i64 1))))), 
  (.mk (some 17) none (.pure (.mv (.t 23))))]))))))) (.seq (.ops [
  (.mk (some 24) none (.pure (.mv (.t 3)))), 
  (.mk (some 2) none (.pure (.mv (.t 24))))]) .ret))))))
def fn72 : AFn := (AFn.mk 12 [(.t 2)] (.seq (.ops [
  (.mk (some 2) none (.pure (.mv (.c (.i .i64 0)))))]) (.seq (.ops [
  (.mk (some 4) none (.pure (.mv (.t 0)))), 
  (.mk (some 5) none (.call 60 [(.t 4)])), 
  (.mk (some 3) none (.pure (.mv (.t 5))))]) (.seq (.ops [
  (.mk (some 6) none (.pure (.mv (.t 3)))), 
  (.mk (some 7) none (.pure (.mv (.t 3)))), 
  (.mk (some 8) none (.pure (.len false (.t 7)))), 
  (.mk (some 9) none (.pure (.bin .sub (.t 8) (.c (.i .i64 1))))), 
  (.mk (some 10) none (.pure (.ixS 1 (.t 6) (.t 9)))), 
  (.mk (some 11) none (.ld true 1 (.t 10))), 
  (.mk (some 2) none (.pure (.mv (.t 11))))]) .ret))))
def fn73 : AFn := (AFn.mk 77 [(.t 4)] (.seq (.ops [
  (.mk (some 4) none (.pure (.mv (.c .nsl))))]) (.seq (.seq (.ops [
  (.mk (some 12) none (.pure (.mv (.t 1)))), 
  (.mk (some 13) none (.pure (.bin .eql (.t 12) (.c (.i .i64 0)))))]) (.cond (.t 13) (.seq (.ops [
  (.mk (some 14) none (.bsl 5 1 [(.i .u8 0)] 0 [])), 
  (.mk (some 4) none (.pure (.mv (.t 14))))]) .ret) .skip)) (.seq (.seq (.ops [
  (.mk (some 15) none (.pure (.mv (.t 1)))), 
  (.mk (some 16) none (.pure (.bin .lss (.t 15) (.c (.i .i64 0)))))]) (.cond (.t 16) (.ops [
  (.mk none none (.ld true 1 (.c (.b true))))]) .skip)) (.seq (.ops [
  (.mk (some 19) none (.pure (.mv (.t 0)))), 
  (.mk (some 20) none (.pure (.len false (.t 19)))), 
  (.mk (some 21) none (.pure (.conv .u64 (.t 20)))), 
  (.mk (some 22) none (.pure (.mv (.t 1)))), 
  (.mk (some 23) none (.pure (.conv .u64 (.t 22)))), 
  (.mk (some 24) none (.call 78 [(.t 21), (.t 23)])), 
  (.mk (some 18) none (.pure (.mv (.t 24)))), 
  (.mk (some 25) none (.pure (.ext 0 (.t 18)))), 
  (.mk (some 26) none (.pure (.ext 1 (.t 18)))), 
  (.mk (some 5) none (.pure (.mv (.t 25)))), 
  (.mk (some 6) none (.pure (.mv (.t 26))))]) (.seq (.seq (.ops [
  (.mk (some 27) none (.pure (.mv (.t 5)))), 
  (.mk (some 28) none (.pure (.bin .gtr (.t 27) (.c (.i .u64 0))))), 
  (.mk (some 29) none (.pure (.mv (.t 28)))), 
  (.mk (some 30) (some (29, false)) (.pure (.mv (.t 6)))), 
  (.mk (some 31) (some (29, false)) (.pure (.bin .gtr (.t 30) (.c (.i .u64 9223372036854775807))))), 
  (.mk (some 32) none (.pure (.pick (.t 29) (.c (.b true)) (.t 31))))]) (.cond (.t 32) (.ops [
  (.mk none none (.ld true 1 (.c (.b true))))]) .skip)) (.seq (.ops [
  (.mk (some 34) none (.pure (.mv (.t 6)))), 
  (.mk (some 35) none (.pure (.conv .i64 (.t 34)))), 
  (.mk (some 7) none (.pure (.mv (.t 35))))]) (.seq (.seq (.ops [
  (.mk (some 36) none (.pure (.mv (.t 0)))), 
  (.mk (some 37) none (.pure (.len false (.t 36)))), 
  (.mk (some 38) none (.pure (.bin .eql (.t 37) (.c (.i .i64 0)))))]) (.cond (.t 38) (.seq (.ops [
  (.mk (some 39) none (.bsl 5 1 [(.i .u8 0)] 0 [])), 
  (.mk (some 4) none (.pure (.mv (.t 39))))]) .ret) .skip)) (.seq (.ops [
  (.mk (some 40) none (.pure (.mv (.t 7)))), 
  (.mk (some 8) none (.pure (.mv (.t 40))))]) (.seq (.seq (.ops [
  (.mk (some 41) none (.pure (.mv (.t 8)))), 
  (.mk (some 42) none (.pure (.bin .gtr (.t 41) (.c (.i .i64 8192)))))]) (.cond (.t 42) (.seq (.ops [
  (.mk (some 43) none (.pure (.mv (.t 0)))), 
  (.mk (some 44) none (.pure (.len false (.t 43)))), 
  (.mk (some 45) none (.pure (.bin .quo (.c (.i .i64 8192)) (.t 44)))), 
  (.mk (some 46) none (.pure (.mv (.t 0)))), 
  (.mk (some 47) none (.pure (.len false (.t 46)))), 
  (.mk (some 48) none (.pure (.bin .mul (.t 45) (.t 47)))), 
  (.mk (some 8) none (.pure (.mv (.t 48))))]) (.seq (.ops [
  (.mk (some 49) none (.pure (.mv (.t 8)))), 
  (.mk (some 50) none (.pure (.bin .eql (.t 49) (.c (.i .i64 0)))))]) (.cond (.t 50) (.ops [
  (.mk (some 51) none (.pure (.mv (.t 0)))), 
  (.mk (some 52) none (.pure (.len false (.t 51)))), 
  (.mk (some 8) none (.pure (.mv (.t 52))))]) .skip))) .skip)) (.seq (.ops [
  (.mk (some 53) none (.pure (.mv (.t 7)))), 
  (.mk (some 54) none (.mnz 5 (.t 53))), 
  (.mk (some 55) none (.pure (.mv (.t 7)))), 
  (.mk (some 56) none (.pure (.mv (.t 7)))), 
  (.mk (some 57) none (.pure (.slS 1 (.t 54) none (some (.t 55)) (some (.t 56))))), 
  (.mk (some 9) none (.pure (.mv (.t 57))))]) (.seq (.ops [
  (.mk (some 58) none (.pure (.mv (.t 9)))), 
  (.mk (some 59) none (.pure (.mv (.t 0)))), 
  (.mk (some 60) none (.cpy 1 (.t 58) (.t 59))), 
  (.mk (some 10) none (.pure (.mv (.t 60))))]) (.seq (.block 0 (.loop (.seq (.seq (.ops [
  (.mk (some 61) none (.pure (.mv (.t 10)))), 
  (.mk (some 62) none (.pure (.mv (.t 7)))), 
  (.mk (some 63) none (.pure (.bin .lss (.t 61) (.t 62))))]) (.cond (.t 63) .skip (.exit 0))) (.block 1 (.seq (.ops [
  (.mk (some 64) none (.pure (.mv (.t 10)))), 
  (.mk (some 65) none (.pure (.mv (.t 8)))), 
  (.mk (some 66) none (.pure (.mx false (.t 64) (.t 65)))), 
  (.mk (some 11) none (.pure (.mv (.t 66))))]) (.ops [
  (.mk (some 67) none (.pure (.mv (.t 10)))), 
  (.mk (some 68) none (.pure (.mv (.t 9)))), 
  (.mk (some 69) none (.pure (.mv (.t 10)))), 
  (.mk (some 70) none (.pure (.slS 1 (.t 68) (some (.t 69)) none none))), 
  (.mk (some 71) none (.pure (.mv (.t 9)))), 
  (.mk (some 72) none (.pure (.mv (.t 11)))), 
  (.mk (some 73) none (.pure (.slS 1 (.t 71) none (some (.t 72)) none))), 
  (.mk (some 74) none (.cpy 1 (.t 70) (.t 73))), 
  (.mk (some 75) none (.pure (.bin .add (.t 67) (.t 74)))), 
  (.mk (some 10) none (.pure (.mv (.t 75))))])))))) (.seq (.ops [
  (.mk (some 76) none (.pure (.mv (.t 9)))), 
  (.mk (some 4) none (.pure (.mv (.t 76))))]) .ret))))))))))))))
def fn75 : AFn := (AFn.mk 19 [] (.seq (.ops [
  (.mk (some 4) none (.ld true 1 (.t 1))), 
  (.mk (some 5) none (.pure (.len false (.t 4)))), 
  (.mk (some 6) none (.pure (.bin .sub (.t 5) (.c (.i .i64 1))))), 
  (.mk (some 3) none (.pure (.mv (.t 6))))]) (.block 0 (.loop (.seq (.seq (.ops [
  (.mk (some 7) none (.pure (.mv (.t 3)))), 
  (.mk (some 8) none (.pure (.bin .geq (.t 7) (.c (.i .i64 0)))))]) (.cond (.t 8) .skip (.exit 0))) (.seq (.block 1 (.seq (.opsY [
  (.mk (some 11) none (.pure (.mv (.t 0)))), 
  (.mk (some 12) none (.pure (.mv (.t 3)))), 
  (.mk (some 13) none (.ld true 1 (.t 1))), 
  (.mk (some 14) none (.pure (.mv (.t 3)))), 
  (.mk (some 15) none (.pure (.ixS 1 (.t 13) (.t 14)))), 
  (.mk (some 16) none (.ld true 1 (.t 15))), 
  (.mk (some 17) none (.callv (.t 11) [(.t 12), (.t 16)])), 
  (.mk (some 18) none (.pure (.not (.t 17))))]) (.cond (.t 18) .ret .skip))) (.ops [
  (.mk (some 9) none (.pure (.mv (.t 3)))), 
  (.mk (some 10) none (.pure (.bin .sub (.t 9) (.c (.i .i64 1))))), 
  (.mk (some 3) none (.pure (.mv (.t 10))))])))))))
def fn78 : AFn := (AFn.mk 30 [(.t 4), (.t 5)] (.seq (.ops [
  (.mk (some 4) none (.pure (.mv (.c (.i .u64 0))))), 
  (.mk (some 5) none (.pure (.mv (.c (.i .u64 0)))))]) (.seq (.cond (.c (.b false)) (.seq (.ops [
  (.mk (some 11) none (.pure (.mv (.t 0)))), 
  (.mk (some 12) none (.pure (.conv .u32 (.t 11)))), 
  (.mk (some 13) none (.pure (.mv (.t 1)))), 
  (.mk (some 14) none (.pure (.conv .u32 (.t 13)))), 
  (.mk (some 15) none (.call 85 [(.t 12), (.t 14)])), 
  (.mk (some 10) none (.pure (.mv (.t 15)))), 
  (.mk (some 16) none (.pure (.ext 0 (.t 10)))), 
  (.mk (some 17) none (.pure (.ext 1 (.t 10)))), 
  (.mk (some 6) none (.pure (.mv (.t 16)))), 
  (.mk (some 7) none (.pure (.mv (.t 17))))]) (.seq (.ops [
  (.mk (some 18) none (.pure (.mv (.t 6)))), 
  (.mk (some 19) none (.pure (.conv .u64 (.t 18)))), 
  (.mk (some 20) none (.pure (.mv (.t 7)))), 
  (.mk (some 21) none (.pure (.conv .u64 (.t 20)))), 
  (.mk (some 4) none (.pure (.mv (.t 19)))), 
  (.mk (some 5) none (.pure (.mv (.t 21))))]) .ret)) .skip) (.seq (.ops [
  (.mk (some 23) none (.pure (.mv (.t 0)))), 
  (.mk (some 24) none (.pure (.mv (.t 1)))), 
  (.mk (some 25) none (.call 86 [(.t 23), (.t 24)])), 
  (.mk (some 22) none (.pure (.mv (.t 25)))), 
  (.mk (some 26) none (.pure (.ext 0 (.t 22)))), 
  (.mk (some 27) none (.pure (.ext 1 (.t 22)))), 
  (.mk (some 8) none (.pure (.mv (.t 26)))), 
  (.mk (some 9) none (.pure (.mv (.t 27))))]) (.seq (.ops [
  (.mk (some 28) none (.pure (.mv (.t 8)))), 
  (.mk (some 29) none (.pure (.mv (.t 9)))), 
  (.mk (some 4) none (.pure (.mv (.t 28)))), 
  (.mk (some 5) none (.pure (.mv (.t 29))))]) .ret)))))
def fn85 : AFn := (AFn.mk 17 [(.t 4), (.t 5)] (.seq (.ops [
  (.mk (some 4) none (.pure (.mv (.c (.i .u32 0))))), 
  (.mk (some 5) none (.pure (.mv (.c (.i .u32 0)))))]) (.seq (.ops [
  (.mk (some 7) none (.pure (.mv (.t 0)))), 
  (.mk (some 8) none (.pure (.conv .u64 (.t 7)))), 
  (.mk (some 9) none (.pure (.mv (.t 1)))), 
  (.mk (some 10) none (.pure (.conv .u64 (.t 9)))), 
  (.mk (some 11) none (.pure (.bin .mul (.t 8) (.t 10)))), 
  (.mk (some 6) none (.pure (.mv (.t 11))))]) (.seq (.ops [
  (.mk (some 12) none (.pure (.mv (.t 6)))), 
  (.mk (some 13) none (.pure (.bin .shr (.t 12) (.c (.i .u64 32))))), 
  (.mk (some 14) none (.pure (.conv .u32 (.t 13)))), 
  (.mk (some 15) none (.pure (.mv (.t 6)))), 
  (.mk (some 16) none (.pure (.conv .u32 (.t 15)))), 
  (.mk (some 4) none (.pure (.mv (.t 14)))), 
  (.mk (some 5) none (.pure (.mv (.t 16))))]) .ret))))
def fn86 : AFn := (AFn.mk 51 [(.t 4), (.t 5)] (.seq (.ops [
  (.mk (some 4) none (.pure (.mv (.c (.i .u64 0))))), 
  (.mk (some 5) none (.pure (.mv (.c (.i .u64 0)))))]) (.seq (.ops [
  (.mk (some 14) none (.pure (.mv (.t 0)))), 
  (.mk (some 15) none (.pure (.bin .and (.t 14) (.c (.i .u64 4294967295))))), 
  (.mk (some 6) none (.pure (.mv (.t 15))))]) (.seq (.ops [
  (.mk (some 16) none (.pure (.mv (.t 0)))), 
  (.mk (some 17) none (.pure (.bin .shr (.t 16) (.c (.i .u64 32))))), 
  (.mk (some 7) none (.pure (.mv (.t 17))))]) (.seq (.ops [
  (.mk (some 18) none (.pure (.mv (.t 1)))), 
  (.mk (some 19) none (.pure (.bin .and (.t 18) (.c (.i .u64 4294967295))))), 
  (.mk (some 8) none (.pure (.mv (.t 19))))]) (.seq (.ops [
  (.mk (some 20) none (.pure (.mv (.t 1)))), 
  (.mk (some 21) none (.pure (.bin .shr (.t 20) (.c (.i .u64 32))))), 
  (.mk (some 9) none (.pure (.mv (.t 21))))]) (.seq (.ops [
  (.mk (some 22) none (.pure (.mv (.t 6)))), 
  (.mk (some 23) none (.pure (.mv (.t 8)))), 
  (.mk (some 24) none (.pure (.bin .mul (.t 22) (.t 23)))), 
  (.mk (some 10) none (.pure (.mv (.t 24))))]) (.seq (.ops [
  (.mk (some 25) none (.pure (.mv (.t 7)))), 
  (.mk (some 26) none (.pure (.mv (.t 8)))), 
  (.mk (some 27) none (.pure (.bin .mul (.t 25) (.t 26)))), 
  (.mk (some 28) none (.pure (.mv (.t 10)))), 
  (.mk (some 29) none (.pure (.bin .shr (.t 28) (.c (.i .u64 32))))), 
  (.mk (some 30) none (.pure (.bin .add (.t 27) (.t 29)))), 
  (.mk (some 11) none (.pure (.mv (.t 30))))]) (.seq (.ops [
  (.mk (some 31) none (.pure (.mv (.t 11)))), 
  (.mk (some 32) none (.pure (.bin .and (.t 31) (.c (.i .u64 4294967295))))), 
  (.mk (some 12) none (.pure (.mv (.t 32))))]) (.seq (.ops [
  (.mk (some 33) none (.pure (.mv (.t 11)))), 
  (.mk (some 34) none (.pure (.bin .shr (.t 33) (.c (.i .u64 32))))), 
  (.mk (some 13) none (.pure (.mv (.t 34))))]) (.seq (.ops [
  (.mk (some 35) none (.pure (.mv (.t 12)))), 
  (.mk (some 36) none (.pure (.mv (.t 6)))), 
  (.mk (some 37) none (.pure (.mv (.t 9)))), 
  (.mk (some 38) none (.pure (.bin .mul (.t 36) (.t 37)))), 
  (.mk (some 39) none (.pure (.bin .add (.t 35) (.t 38)))), 
  (.mk (some 12) none (.pure (.mv (.t 39))))]) (.seq (.ops [
  (.mk (some 40) none (.pure (.mv (.t 7)))), 
  (.mk (some 41) none (.pure (.mv (.t 9)))), 
  (.mk (some 42) none (.pure (.bin .mul (.t 40) (.t 41)))), 
  (.mk (some 43) none (.pure (.mv (.t 13)))), 
  (.mk (some 44) none (.pure (.bin .add (.t 42) (.t 43)))), 
  (.mk (some 45) none (.pure (.mv (.t 12)))), 
  (.mk (some 46) none (.pure (.bin .shr (.t 45) (.c (.i .u64 32))))), 
  (.mk (some 47) none (.pure (.bin .add (.t 44) (.t 46)))), 
  (.mk (some 4) none (.pure (.mv (.t 47))))]) (.seq (.ops [
  (.mk (some 48) none (.pure (.mv (.t 0)))), 
  (.mk (some 49) none (.pure (.mv (.t 1)))), 
  (.mk (some 50) none (.pure (.bin .mul (.t 48) (.t 49)))), 
  (.mk (some 5) none (.pure (.mv (.t 50))))]) .ret)))))))))))))
def F (f : Nat) : Option AFn := cond (Nat.blt f 52) (cond (Nat.blt f 35) (cond (Nat.blt f 25) (cond (Nat.blt f 18) (cond (Nat.beq f 13) (some fn13) none) (cond (Nat.blt f 19) (cond (Nat.beq f 18) (some fn18) none) (cond (Nat.beq f 19) (some fn19) none))) (cond (Nat.blt f 29) (cond (Nat.beq f 25) (some fn25) none) (cond (Nat.blt f 33) (cond (Nat.beq f 29) (some fn29) none) (cond (Nat.beq f 33) (some fn33) none)))) (cond (Nat.blt f 45) (cond (Nat.blt f 37) (cond (Nat.beq f 35) (some fn35) none) (cond (Nat.blt f 39) (cond (Nat.beq f 37) (some fn37) none) (cond (Nat.beq f 39) (some fn39) none))) (cond (Nat.blt f 48) (cond (Nat.blt f 47) (cond (Nat.beq f 45) (some fn45) none) (cond (Nat.beq f 47) (some fn47) none)) (cond (Nat.blt f 51) (cond (Nat.beq f 48) (some fn48) none) (cond (Nat.beq f 51) (some fn51) none))))) (cond (Nat.blt f 71) (cond (Nat.blt f 63) (cond (Nat.blt f 59) (cond (Nat.beq f 52) (some fn52) none) (cond (Nat.blt f 60) (cond (Nat.beq f 59) (some fn59) none) (cond (Nat.beq f 60) (some fn60) none))) (cond (Nat.blt f 66) (cond (Nat.beq f 63) (some fn63) none) (cond (Nat.blt f 68) (cond (Nat.beq f 66) (some fn66) none) (cond (Nat.beq f 68) (some fn68) none)))) (cond (Nat.blt f 75) (cond (Nat.blt f 72) (cond (Nat.beq f 71) (some fn71) none) (cond (Nat.blt f 73) (cond (Nat.beq f 72) (some fn72) none) (cond (Nat.beq f 73) (some fn73) none))) (cond (Nat.blt f 85) (cond (Nat.blt f 78) (cond (Nat.beq f 75) (some fn75) none) (cond (Nat.beq f 78) (some fn78) none)) (cond (Nat.blt f 86) (cond (Nat.beq f 85) (some fn85) none) (cond (Nat.beq f 86) (some fn86) none)))))
end Go.Proofs.Ytobmcofkcfifkaa.T
