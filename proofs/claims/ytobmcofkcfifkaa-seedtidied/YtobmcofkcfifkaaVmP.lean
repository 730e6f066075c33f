/- The functions that the law reaches, as the small machine takes them. -/
import Derived.Test.YtobmcofkcfifkaaVmA
import Derived.KernelRfl
open Go.Vm
namespace Go.Proofs.Ytobmcofkcfifkaa.T
open Go
def fn11 : AFn := (AFn.mk 190 [(.t 4)] (.seq (.ops [
  (.mk (some 4) none (.pure (.mv (.c (.b false)))))]) (.seq (.seq (.ops [
  (.mk (some 23) none (.pure (.mv (.t 0)))), 
  (.mk (some 24) none (.pure (.len false (.t 23)))), 
  (.mk (some 25) none (.pure (.bin .eql (.t 24) (.c (.i .i64 0))))), 
  (.mk (some 26) none (.pure (.mv (.t 25)))), 
  (.mk (some 27) (some (26, false)) (.pure (.mv (.t 0)))), 
  (.mk (some 28) (some (26, false)) (.pure (.len false (.t 27)))), 
  (.mk (some 29) (some (26, false)) (.pure (.mv (.t 1)))), 
  (.mk (some 30) (some (26, false)) (.pure (.len false (.t 29)))), 
  (.mk (some 31) (some (26, false)) (.pure (.bin .neq (.t 28) (.t 30)))), 
  (.mk (some 32) none (.pure (.pick (.t 26) (.c (.b true)) (.t 31)))), 
  (.mk (some 33) none (.pure (.mv (.t 32)))), 
  (.mk (some 34) (some (33, false)) (.pure (.mv (.t 0)))), 
  (.mk (some 35) (some (33, false)) (.pure (.len false (.t 34)))), 
  (.mk (some 36) (some (33, false)) (.pure (.bin .gtr (.t 35) (.c (.i .i64 100))))), 
  (.mk (some 37) none (.pure (.pick (.t 33) (.c (.b true)) (.t 36))))]) (.cond (.t 37) (.seq (.ops [
  (.mk (some 38) none (.call 18 [])), 
  (.mk (some 4) none (.pure (.mv (.t 38))))]) .ret) .skip)) (.seq (.ops [
  (.mk (some 5) none (.pure (.mv (.c (.s []))))), 
  (.mk (some 6) none (.pure (.mv (.c (.s []))))), 
  (.mk (some 7) none (.pure (.mv (.c (.s [])))))]) (.seq (.seq (.ops [
  (.mk (some 8) none (.pure (.mv (.c (.i .i64 0)))))]) (.block 0 (.loop (.seq (.seq (.ops [
  (.mk (some 39) none (.pure (.mv (.t 8)))), 
  (.mk (some 40) none (.pure (.mv (.t 0)))), 
  (.mk (some 41) none (.pure (.len false (.t 40)))), 
  (.mk (some 42) none (.pure (.bin .lss (.t 39) (.t 41))))]) (.cond (.t 42) .skip (.exit 0))) (.seq (.block 1 (.seq (.any [(
  (.mk (some 45) none (.pure (.mv (.t 0)))), false), (
  (.mk (some 46) none (.pure (.mv (.t 8)))), false), (
  (.mk (some 47) none (.pure (.ixS 1 (.t 45) (.t 46)))), false), (
  (.mk (some 48) none (.ld true 1 (.t 47))), false), (
  (.mk (some 49) none (.pure (.bin .rem (.t 48) (.c (.i .u8 5))))), false), (
  (.mk (some 50) none (.pure (.conv .i64 (.t 49)))), false), (
  (.mk (some 51) none (.pure (.mv (.t 1)))), false), (
  (.mk (some 52) none (.pure (.mv (.t 8)))), false), (
  (.mk (some 53) none (.pure (.ixS 1 (.t 51) (.t 52)))), false), (
  (.mk (some 54) none (.ld true 1 (.t 53))), false), (
  (.mk (some 55) none (.pure (.bin .rem (.t 54) (.c (.i .u8 5))))), false), (
  (.mk (some 56) none (.pure (.conv .i64 (.t 55)))), false), (
  (.mk (some 9) none (.pure (.mv (.t 50)))), false), (
  (.mk (some 10) none (.pure (.mv (.t 56)))), false)]) (.seq (.ops [
  (.mk (some 57) none (.pure (.mv (.t 5)))), 
  (.mk (some 58) none (.pure (.mv (.t 9)))), 
  (.mk (some 59) none (.pure (.mv (.t 9)))), 
  (.mk (some 60) none (.pure (.bin .add (.t 59) (.c (.i .i64 1))))), 
  (.mk (some 61) none (.pure (.slStr (.c (.s [48, 49, 50, 51, 52, 53, 54, 55, 56, 57])) (some (.t 58)) (some (.t 60))))), 
  (.mk (some 62) none (.pure (.sbin .add (.t 57) (.t 61)))), 
  (.mk (some 5) none (.pure (.mv (.t 62))))]) (.seq (.ops [
  (.mk (some 63) none (.pure (.mv (.t 6)))), 
  (.mk (some 64) none (.pure (.mv (.t 10)))), 
  (.mk (some 65) none (.pure (.mv (.t 10)))), 
  (.mk (some 66) none (.pure (.bin .add (.t 65) (.c (.i .i64 1))))), 
  (.mk (some 67) none (.pure (.slStr (.c (.s [48, 49, 50, 51, 52, 53, 54, 55, 56, 57])) (some (.t 64)) (some (.t 66))))), 
  (.mk (some 68) none (.pure (.sbin .add (.t 63) (.t 67)))), 
  (.mk (some 6) none (.pure (.mv (.t 68))))]) (.ops [
  (.mk (some 69) none (.pure (.mv (.t 7)))), 
  (.mk (some 70) none (.pure (.mv (.t 9)))), 
  (.mk (some 71) none (.pure (.mv (.t 10)))), 
  (.mk (some 72) none (.pure (.bin .add (.t 70) (.t 71)))), 
  (.mk (some 73) none (.pure (.mv (.t 9)))), 
  (.mk (some 74) none (.pure (.mv (.t 10)))), 
  (.mk (some 75) none (.pure (.bin .add (.t 73) (.t 74)))), 
  (.mk (some 76) none (.pure (.bin .add (.t 75) (.c (.i .i64 1))))), 
  (.mk (some 77) none (.pure (.slStr (.c (.s [48, 49, 50, 51, 52, 53, 54, 55, 56, 57])) (some (.t 72)) (some (.t 76))))), 
  (.mk (some 78) none (.pure (.sbin .add (.t 69) (.t 77)))), 
  (.mk (some 7) none (.pure (.mv (.t 78))))]))))) (.ops [
  (.mk (some 43) none (.pure (.mv (.t 8)))), 
  (.mk (some 44) none (.pure (.bin .add (.t 43) (.c (.i .i64 1))))), 
  (.mk (some 8) none (.pure (.mv (.t 44))))])))))) (.seq (.ops [
  (.mk (some 80) none (.pure (.mv (.t 5)))), 
  (.mk (some 81) none (.call 23 [(.t 80)])), 
  (.mk (some 79) none (.pure (.mv (.t 81)))), 
  (.mk (some 82) none (.pure (.ext 0 (.t 79)))), 
  (.mk (some 83) none (.pure (.ext 1 (.t 79)))), 
  (.mk (some 11) none (.pure (.mv (.t 82)))), 
  (.mk (some 12) none (.pure (.mv (.t 83))))]) (.seq (.ops [
  (.mk (some 85) none (.pure (.mv (.t 6)))), 
  (.mk (some 86) none (.call 23 [(.t 85)])), 
  (.mk (some 84) none (.pure (.mv (.t 86)))), 
  (.mk (some 87) none (.pure (.ext 0 (.t 84)))), 
  (.mk (some 88) none (.pure (.ext 1 (.t 84)))), 
  (.mk (some 13) none (.pure (.mv (.t 87)))), 
  (.mk (some 14) none (.pure (.mv (.t 88))))]) (.seq (.ops [
  (.mk (some 90) none (.pure (.mv (.t 7)))), 
  (.mk (some 91) none (.call 23 [(.t 90)])), 
  (.mk (some 89) none (.pure (.mv (.t 91)))), 
  (.mk (some 92) none (.pure (.ext 0 (.t 89)))), 
  (.mk (some 93) none (.pure (.ext 1 (.t 89)))), 
  (.mk (some 15) none (.pure (.mv (.t 92)))), 
  (.mk (some 16) none (.pure (.mv (.t 93))))]) (.seq (.seq (.ops [
  (.mk (some 94) none (.pure (.mv (.t 12)))), 
  (.mk (some 95) none (.pure (.bin .neq (.t 94) (.c (.i .i64 0))))), 
  (.mk (some 96) none (.pure (.mv (.t 95)))), 
  (.mk (some 97) (some (96, false)) (.pure (.mv (.t 14)))), 
  (.mk (some 98) (some (96, false)) (.pure (.bin .neq (.t 97) (.c (.i .i64 0))))), 
  (.mk (some 99) none (.pure (.pick (.t 96) (.c (.b true)) (.t 98))))]) (.cond (.t 99) (.seq (.ops [
  (.mk (some 100) none (.pure (.mv (.t 12)))), 
  (.mk (some 101) none (.pure (.bin .eql (.t 100) (.c (.i .i64 0))))), 
  (.mk (some 102) none (.pure (.mv (.t 101)))), 
  (.mk (some 103) (some (102, false)) (.pure (.mv (.t 12)))), 
  (.mk (some 104) (some (102, false)) (.pure (.bin .eql (.t 103) (.c (.i .i64 4))))), 
  (.mk (some 105) none (.pure (.pick (.t 102) (.c (.b true)) (.t 104)))), 
  (.mk (some 106) none (.pure (.mv (.t 105)))), 
  (.mk (some 107) (some (106, true)) (.pure (.mv (.t 14)))), 
  (.mk (some 108) (some (106, true)) (.pure (.bin .eql (.t 107) (.c (.i .i64 0))))), 
  (.mk (some 109) (some (106, true)) (.pure (.mv (.t 108)))), 
  (.mk (some 110) (some (109, false)) (.pure (.mv (.t 14)))), 
  (.mk (some 111) (some (109, false)) (.pure (.bin .eql (.t 110) (.c (.i .i64 4))))), 
  (.mk (some 112) (some (106, true)) (.pure (.pick (.t 109) (.c (.b true)) (.t 111)))), 
  (.mk (some 113) none (.pure (.pick (.t 106) (.t 112) (.c (.b false))))), 
  (.mk (some 114) none (.pure (.mv (.t 113)))), 
  (.mk (some 115) (some (114, true)) (.pure (.mv (.t 16)))), 
  (.mk (some 116) (some (114, true)) (.pure (.bin .eql (.t 115) (.c (.i .i64 4))))), 
  (.mk (some 117) none (.pure (.pick (.t 114) (.t 116) (.c (.b false))))), 
  (.mk (some 118) none (.pure (.mv (.t 117)))), 
  (.mk (some 119) (some (118, true)) (.call 18 [])), 
  (.mk (some 120) none (.pure (.pick (.t 118) (.t 119) (.c (.b false))))), 
  (.mk (some 4) none (.pure (.mv (.t 120))))]) .ret) .skip)) (.seq (.ops [
  (.mk (some 122) none (.pure (.mv (.t 11)))), 
  (.mk (some 123) none (.call 21 [(.t 122)])), 
  (.mk (some 121) none (.pure (.mv (.t 123)))), 
  (.mk (some 124) none (.pure (.ext 0 (.t 121)))), 
  (.mk (some 125) none (.pure (.ext 1 (.t 121)))), 
  (.mk (some 17) none (.pure (.mv (.t 124)))), 
  (.mk (some 12) none (.pure (.mv (.t 125))))]) (.seq (.ops [
  (.mk (some 127) none (.pure (.mv (.t 13)))), 
  (.mk (some 128) none (.call 21 [(.t 127)])), 
  (.mk (some 126) none (.pure (.mv (.t 128)))), 
  (.mk (some 129) none (.pure (.ext 0 (.t 126)))), 
  (.mk (some 130) none (.pure (.ext 1 (.t 126)))), 
  (.mk (some 18) none (.pure (.mv (.t 129)))), 
  (.mk (some 14) none (.pure (.mv (.t 130))))]) (.seq (.seq (.ops [
  (.mk (some 131) none (.pure (.mv (.t 12)))), 
  (.mk (some 132) none (.pure (.bin .neq (.t 131) (.c (.i .i64 0))))), 
  (.mk (some 133) none (.pure (.mv (.t 132)))), 
  (.mk (some 134) (some (133, false)) (.pure (.mv (.t 14)))), 
  (.mk (some 135) (some (133, false)) (.pure (.bin .neq (.t 134) (.c (.i .i64 0))))), 
  (.mk (some 136) none (.pure (.pick (.t 133) (.c (.b true)) (.t 135))))]) (.cond (.t 136) (.seq (.ops [
  (.mk (some 4) none (.pure (.mv (.c (.b false)))))]) .ret) .skip)) (.seq (.seq (.ops [
  (.mk (some 137) none (.pure (.mv (.t 17)))), 
  (.mk (some 138) none (.pure (.mv (.t 18)))), 
  (.mk (some 139) none (.pure (.bin .add (.t 137) (.t 138)))), 
  (.mk (some 140) none (.pure (.bin .gtr (.t 139) (.c (.i .i64 1152921504606846976)))))]) (.cond (.t 140) (.seq (.ops [
  (.mk (some 141) none (.pure (.mv (.t 16)))), 
  (.mk (some 142) none (.pure (.bin .eql (.t 141) (.c (.i .i64 4))))), 
  (.mk (some 143) none (.pure (.mv (.t 142)))), 
  (.mk (some 144) (some (143, true)) (.pure (.mv (.t 15)))), 
  (.mk (some 145) (some (143, true)) (.pure (.sbin .eql (.t 144) (.c (.s []))))), 
  (.mk (some 146) none (.pure (.pick (.t 143) (.t 145) (.c (.b false))))), 
  (.mk (some 147) none (.pure (.mv (.t 146)))), 
  (.mk (some 148) (some (147, true)) (.call 18 [])), 
  (.mk (some 149) none (.pure (.pick (.t 147) (.t 148) (.c (.b false))))), 
  (.mk (some 4) none (.pure (.mv (.t 149))))]) .ret) .skip)) (.seq (.ops [
  (.mk (some 151) none (.pure (.mv (.t 15)))), 
  (.mk (some 152) none (.call 21 [(.t 151)])), 
  (.mk (some 150) none (.pure (.mv (.t 152)))), 
  (.mk (some 153) none (.pure (.ext 0 (.t 150)))), 
  (.mk (some 154) none (.pure (.ext 1 (.t 150)))), 
  (.mk (some 19) none (.pure (.mv (.t 153)))), 
  (.mk (some 20) none (.pure (.mv (.t 154))))]) (.seq (.ops [
  (.mk (some 156) none (.pure (.mv (.t 11)))), 
  (.mk (some 157) none (.call 23 [(.t 156)])), 
  (.mk (some 155) none (.pure (.mv (.t 157)))), 
  (.mk (some 158) none (.pure (.ext 0 (.t 155)))), 
  (.mk (some 159) none (.pure (.ext 1 (.t 155)))), 
  (.mk (some 21) none (.pure (.mv (.t 158)))), 
  (.mk (some 22) none (.pure (.mv (.t 159))))]) (.seq (.ops [
  (.mk (some 160) none (.pure (.mv (.t 16)))), 
  (.mk (some 161) none (.pure (.bin .eql (.t 160) (.c (.i .i64 0))))), 
  (.mk (some 162) none (.pure (.mv (.t 161)))), 
  (.mk (some 163) (some (162, true)) (.pure (.mv (.t 20)))), 
  (.mk (some 164) (some (162, true)) (.pure (.bin .eql (.t 163) (.c (.i .i64 0))))), 
  (.mk (some 165) none (.pure (.pick (.t 162) (.t 164) (.c (.b false))))), 
  (.mk (some 166) none (.pure (.mv (.t 165)))), 
  (.mk (some 167) (some (166, true)) (.pure (.mv (.t 19)))), 
  (.mk (some 168) (some (166, true)) (.pure (.mv (.t 17)))), 
  (.mk (some 169) (some (166, true)) (.pure (.mv (.t 18)))), 
  (.mk (some 170) (some (166, true)) (.pure (.bin .add (.t 168) (.t 169)))), 
  (.mk (some 171) (some (166, true)) (.pure (.bin .eql (.t 167) (.t 170)))), 
  (.mk (some 172) none (.pure (.pick (.t 166) (.t 171) (.c (.b false))))), 
  (.mk (some 173) none (.pure (.mv (.t 172)))), 
  (.mk (some 174) (some (173, true)) (.pure (.mv (.t 22)))), 
  (.mk (some 175) (some (173, true)) (.pure (.bin .eql (.t 174) (.c (.i .i64 0))))), 
  (.mk (some 176) (some (173, true)) (.pure (.mv (.t 175)))), 
  (.mk (some 177) (some (176, true)) (.pure (.mv (.t 21)))), 
  (.mk (some 178) (some (176, true)) (.pure (.mv (.t 11)))), 
  (.mk (some 179) (some (176, true)) (.pure (.sbin .eql (.t 177) (.t 178)))), 
  (.mk (some 180) (some (173, true)) (.pure (.pick (.t 176) (.t 179) (.c (.b false))))), 
  (.mk (some 181) (some (173, true)) (.pure (.mv (.t 180)))), 
  (.mk (some 182) (some (181, false)) (.pure (.mv (.t 11)))), 
  (.mk (some 183) (some (181, false)) (.pure (.len true (.t 182)))), 
  (.mk (some 184) (some (181, false)) (.pure (.bin .gtr (.t 183) (.c (.i .i64 100))))), 
  (.mk (some 185) (some (173, true)) (.pure (.pick (.t 181) (.c (.b true)) (.t 184)))), 
  (.mk (some 186) none (.pure (.pick (.t 173) (.t 185) (.c (.b false))))), 
  (.mk (some 187) none (.pure (.mv (.t 186)))), 
  (.mk (some 188) (some (187, true)) (.call 18 [])), 
  (.mk (some 189) none (.pure (.pick (.t 187) (.t 188) (.c (.b false))))), 
  (.mk (some 4) none (.pure (.mv (.t 189))))]) .ret))))))))))))))))
def fn18 : AFn := (AFn.mk 75 [(.t 0)] (.seq (.ops [
  (.mk (some 0) none (.pure (.mv (.c (.b false)))))]) (.seq (.ops [
  (.mk (some 13) none (.call 19 [(.c (.i .i64 11))])), 
  (.mk (some 12) none (.pure (.mv (.t 13)))), 
  (.mk (some 14) none (.pure (.ext 0 (.t 12)))), 
  (.mk (some 15) none (.pure (.ext 1 (.t 12)))), 
  (.mk (some 1) none (.pure (.mv (.t 14)))), 
  (.mk (some 2) none (.pure (.mv (.t 15))))]) (.seq (.ops [
  (.mk (some 17) none (.call 25 [(.c (.i .i64 11))])), 
  (.mk (some 16) none (.pure (.mv (.t 17)))), 
  (.mk (some 18) none (.pure (.ext 0 (.t 16)))), 
  (.mk (some 19) none (.pure (.ext 1 (.t 16)))), 
  (.mk (some 3) none (.pure (.mv (.t 18)))), 
  (.mk (some 4) none (.pure (.mv (.t 19))))]) (.seq (.ops [
  (.mk (some 21) none (.call 29 [(.c (.i .i64 3)), (.c (.i .i64 4))])), 
  (.mk (some 20) none (.pure (.mv (.t 21)))), 
  (.mk (some 22) none (.pure (.ext 0 (.t 20)))), 
  (.mk (some 23) none (.pure (.ext 1 (.t 20)))), 
  (.mk (some 5) none (.pure (.mv (.t 22)))), 
  (.mk (some 6) none (.pure (.mv (.t 23))))]) (.seq (.ops [
  (.mk (some 25) none (.call 37 [(.c (.i .i64 2)), (.c (.i .i64 2))])), 
  (.mk (some 24) none (.pure (.mv (.t 25)))), 
  (.mk (some 26) none (.pure (.ext 0 (.t 24)))), 
  (.mk (some 27) none (.pure (.ext 1 (.t 24)))), 
  (.mk (some 28) none (.pure (.ext 2 (.t 24)))), 
  (.mk (some 7) none (.pure (.mv (.t 26)))), 
  (.mk (some 8) none (.pure (.mv (.t 27)))), 
  (.mk (some 9) none (.pure (.mv (.t 28))))]) (.seq (.ops [
  (.mk (some 30) none (.call 39 [(.c (.i .i64 11)), (.c (.i .i64 10))])), 
  (.mk (some 29) none (.pure (.mv (.t 30)))), 
  (.mk (some 31) none (.pure (.ext 0 (.t 29)))), 
  (.mk (some 32) none (.pure (.ext 1 (.t 29)))), 
  (.mk (some 10) none (.pure (.mv (.t 31)))), 
  (.mk (some 11) none (.pure (.mv (.t 32))))]) (.seq (.ops [
  (.mk (some 33) none (.pure (.mv (.t 2)))), 
  (.mk (some 34) none (.pure (.bin .eql (.t 33) (.c (.i .i64 0))))), 
  (.mk (some 35) none (.pure (.mv (.t 34)))), 
  (.mk (some 36) (some (35, true)) (.pure (.mv (.t 1)))), 
  (.mk (some 37) (some (35, true)) (.pure (.sbin .eql (.t 36) (.c (.s [49, 48, 49, 48, 48]))))), 
  (.mk (some 38) none (.pure (.pick (.t 35) (.t 37) (.c (.b false))))), 
  (.mk (some 39) none (.pure (.mv (.t 38)))), 
  (.mk (some 40) (some (39, true)) (.pure (.mv (.t 4)))), 
  (.mk (some 41) (some (39, true)) (.pure (.bin .eql (.t 40) (.c (.i .i64 0))))), 
  (.mk (some 42) none (.pure (.pick (.t 39) (.t 41) (.c (.b false))))), 
  (.mk (some 43) none (.pure (.mv (.t 42)))), 
  (.mk (some 44) (some (43, true)) (.pure (.mv (.t 3)))), 
  (.mk (some 45) (some (43, true)) (.pure (.bin .eql (.t 44) (.c (.i .i64 3))))), 
  (.mk (some 46) none (.pure (.pick (.t 43) (.t 45) (.c (.b false))))), 
  (.mk (some 47) none (.pure (.mv (.t 46)))), 
  (.mk (some 48) (some (47, true)) (.pure (.mv (.t 6)))), 
  (.mk (some 49) (some (47, true)) (.pure (.bin .eql (.t 48) (.c (.i .i64 0))))), 
  (.mk (some 50) none (.pure (.pick (.t 47) (.t 49) (.c (.b false))))), 
  (.mk (some 51) none (.pure (.mv (.t 50)))), 
  (.mk (some 52) (some (51, true)) (.pure (.mv (.t 5)))), 
  (.mk (some 53) (some (51, true)) (.pure (.bin .eql (.t 52) (.c (.i .i64 29))))), 
  (.mk (some 54) none (.pure (.pick (.t 51) (.t 53) (.c (.b false))))), 
  (.mk (some 55) none (.pure (.mv (.t 54)))), 
  (.mk (some 56) (some (55, true)) (.pure (.mv (.t 9)))), 
  (.mk (some 57) (some (55, true)) (.pure (.bin .eql (.t 56) (.c (.i .i64 0))))), 
  (.mk (some 58) none (.pure (.pick (.t 55) (.t 57) (.c (.b false))))), 
  (.mk (some 59) none (.pure (.mv (.t 58)))), 
  (.mk (some 60) (some (59, true)) (.pure (.mv (.t 7)))), 
  (.mk (some 61) (some (59, true)) (.pure (.bin .eql (.t 60) (.c (.i .i64 0))))), 
  (.mk (some 62) none (.pure (.pick (.t 59) (.t 61) (.c (.b false))))), 
  (.mk (some 63) none (.pure (.mv (.t 62)))), 
  (.mk (some 64) (some (63, true)) (.pure (.mv (.t 8)))), 
  (.mk (some 65) (some (63, true)) (.pure (.bin .eql (.t 64) (.c (.i .i64 1))))), 
  (.mk (some 66) none (.pure (.pick (.t 63) (.t 65) (.c (.b false))))), 
  (.mk (some 67) none (.pure (.mv (.t 66)))), 
  (.mk (some 68) (some (67, true)) (.pure (.mv (.t 11)))), 
  (.mk (some 69) (some (67, true)) (.pure (.bin .eql (.t 68) (.c (.i .i64 0))))), 
  (.mk (some 70) none (.pure (.pick (.t 67) (.t 69) (.c (.b false))))), 
  (.mk (some 71) none (.pure (.mv (.t 70)))), 
  (.mk (some 72) (some (71, true)) (.pure (.mv (.t 10)))), 
  (.mk (some 73) (some (71, true)) (.pure (.bin .eql (.t 72) (.c (.i .i64 3))))), 
  (.mk (some 74) none (.pure (.pick (.t 71) (.t 73) (.c (.b false))))), 
  (.mk (some 0) none (.pure (.mv (.t 74))))]) .ret))))))))
def fn19 : AFn := (AFn.mk 10 [(.t 2), (.t 3)] (.seq (.ops [
  (.mk (some 2) none (.pure (.mv (.c (.s []))))), 
  (.mk (some 3) none (.pure (.mv (.c (.i .i64 0)))))]) (.seq (.seq (.ops [
  (.mk (some 4) none (.pure (.mv (.t 0)))), 
  (.mk (some 5) none (.bsl 3 1 [(.i .i64 0)] 1 [((0, 1), (.t 4))])), 
  (.mk (some 6) none (.call 51 [(.t 5)])), 
  (.mk (some 7) none (.pure (.not (.t 6))))]) (.cond (.t 7) (.seq (.ops [
  (.mk (some 2) none (.pure (.mv (.c (.s []))))), 
  (.mk (some 3) none (.pure (.mv (.c (.i .i64 4)))))]) .ret) .skip)) (.seq (.ops [
  (.mk (some 8) none (.pure (.mv (.t 0)))), 
  (.mk (some 9) none (.call 52 [(.t 8)])), 
  (.mk (some 2) none (.pure (.mv (.t 9)))), 
  (.mk (some 3) none (.pure (.mv (.c (.i .i64 0)))))]) .ret))))
def fn21 : AFn := (AFn.mk 13 [(.t 2), (.t 3)] (.seq (.ops [
  (.mk (some 2) none (.pure (.mv (.c (.i .i64 0))))), 
  (.mk (some 3) none (.pure (.mv (.c (.i .i64 0)))))]) (.seq (.seq (.ops [
  (.mk (some 5) none (.pure (.mv (.t 0)))), 
  (.mk (some 6) none (.call 55 [(.t 5)])), 
  (.mk (some 7) none (.pure (.not (.t 6))))]) (.cond (.t 7) (.seq (.ops [
  (.mk (some 2) none (.pure (.mv (.c (.i .i64 0))))), 
  (.mk (some 3) none (.pure (.mv (.c (.i .i64 5)))))]) .ret) .skip)) (.seq (.ops [
  (.mk (some 8) none (.pure (.mv (.t 0)))), 
  (.mk (some 9) none (.call 56 [(.t 8)])), 
  (.mk (some 4) none (.pure (.mv (.t 9))))]) (.seq (.seq (.ops [
  (.mk (some 10) none (.pure (.mv (.t 4)))), 
  (.mk (some 11) none (.pure (.bin .gtr (.t 10) (.c (.i .i64 1152921504606846976)))))]) (.cond (.t 11) (.seq (.ops [
  (.mk (some 2) none (.pure (.mv (.c (.i .i64 0))))), 
  (.mk (some 3) none (.pure (.mv (.c (.i .i64 4)))))]) .ret) .skip)) (.seq (.ops [
  (.mk (some 12) none (.pure (.mv (.t 4)))), 
  (.mk (some 2) none (.pure (.mv (.t 12)))), 
  (.mk (some 3) none (.pure (.mv (.c (.i .i64 0)))))]) .ret))))))
def fn23 : AFn := (AFn.mk 17 [(.t 2), (.t 3)] (.seq (.ops [
  (.mk (some 2) none (.pure (.mv (.c (.s []))))), 
  (.mk (some 3) none (.pure (.mv (.c (.i .i64 0)))))]) (.seq (.seq (.ops [
  (.mk (some 5) none (.pure (.mv (.t 0)))), 
  (.mk (some 6) none (.pure (.len true (.t 5)))), 
  (.mk (some 7) none (.pure (.bin .gtr (.t 6) (.c (.i .i64 100)))))]) (.cond (.t 7) (.seq (.ops [
  (.mk (some 2) none (.pure (.mv (.c (.s []))))), 
  (.mk (some 3) none (.pure (.mv (.c (.i .i64 3)))))]) .ret) .skip)) (.seq (.seq (.ops [
  (.mk (some 8) none (.pure (.mv (.t 0)))), 
  (.mk (some 9) none (.call 58 [(.t 8)])), 
  (.mk (some 10) none (.pure (.not (.t 9))))]) (.cond (.t 10) (.seq (.ops [
  (.mk (some 2) none (.pure (.mv (.c (.s []))))), 
  (.mk (some 3) none (.pure (.mv (.c (.i .i64 5)))))]) .ret) .skip)) (.seq (.ops [
  (.mk (some 11) none (.pure (.mv (.t 0)))), 
  (.mk (some 12) none (.call 56 [(.t 11)])), 
  (.mk (some 4) none (.pure (.mv (.t 12))))]) (.seq (.seq (.ops [
  (.mk (some 13) none (.pure (.mv (.t 4)))), 
  (.mk (some 14) none (.pure (.bin .gtr (.t 13) (.c (.i .i64 1152921504606846976)))))]) (.cond (.t 14) (.seq (.ops [
  (.mk (some 2) none (.pure (.mv (.c (.s []))))), 
  (.mk (some 3) none (.pure (.mv (.c (.i .i64 4)))))]) .ret) .skip)) (.seq (.ops [
  (.mk (some 15) none (.pure (.mv (.t 4)))), 
  (.mk (some 16) none (.call 52 [(.t 15)])), 
  (.mk (some 2) none (.pure (.mv (.t 16)))), 
  (.mk (some 3) none (.pure (.mv (.c (.i .i64 0)))))]) .ret)))))))
def fn25 : AFn := (AFn.mk 39 [(.t 2), (.t 3)] (.seq (.ops [
  (.mk (some 2) none (.pure (.mv (.c (.i .i64 0))))), 
  (.mk (some 3) none (.pure (.mv (.c (.i .i64 0)))))]) (.seq (.seq (.ops [
  (.mk (some 10) none (.pure (.mv (.t 0)))), 
  (.mk (some 11) none (.bsl 3 1 [(.i .i64 0)] 1 [((0, 1), (.t 10))])), 
  (.mk (some 12) none (.call 51 [(.t 11)])), 
  (.mk (some 13) none (.pure (.not (.t 12))))]) (.cond (.t 13) (.seq (.ops [
  (.mk (some 2) none (.pure (.mv (.c (.i .i64 0))))), 
  (.mk (some 3) none (.pure (.mv (.c (.i .i64 4)))))]) .ret) .skip)) (.seq (.ops [
  (.mk (some 4) none (.al 3 [(.i .i64 0)])), 
  (.mk (some 5) none (.al 3 [(.i .i64 0)])), 
  (.mk (some 6) none (.al 3 [(.i .i64 0)])), 
  (.mk none none (.st 1 (.t 4) (.c (.i .i64 1)))), 
  (.mk none none (.st 1 (.t 5) (.c (.i .i64 0)))), 
  (.mk none none (.st 1 (.t 6) (.c (.i .i64 1))))]) (.seq (.seq (.ops [
  (.mk (some 14) none (.pure (.mv (.t 0)))), 
  (.mk (some 15) none (.call 60 [(.t 14)])), 
  (.mk (some 16) none (.call 59 [(.t 15)]))]) (.block 0 (.rng (.t 16) [17, 18] (.ops [
  (.mk (some 8) none (.pure (.mv (.t 18))))]) (.block 1 (.seq (.ops [
  (.mk (some 19) none (.pure (.mv (.t 8)))), 
  (.mk (some 20) none (.ld true 1 (.t 6))), 
  (.mk (some 21) none (.pure (.bin .sub (.t 19) (.t 20)))), 
  (.mk (some 9) none (.pure (.mv (.t 21))))]) (.seq (.any [(
  (.mk (some 22) none (.ld true 1 (.t 4))), false), (
  (.mk (some 23) none (.ld true 1 (.t 5))), false), (
  (.mk (some 24) none (.pure (.bin .add (.t 22) (.t 23)))), false), (
  (.mk (some 25) none (.ld true 1 (.t 4))), false), (
  (.mk (some 26) none (.pure (.mv (.t 9)))), false), (
  (.mk (some 27) none (.pure (.bin .sub (.t 26) (.c (.i .i64 1))))), false), (
  (.mk (some 28) none (.pure (.bin .quo (.t 27) (.c (.i .i64 2))))), false), (
  (.mk (some 29) none (.pure (.bin .mul (.t 25) (.t 28)))), false), (
  (.mk (some 30) none (.ld true 1 (.t 5))), true), (
  (.mk (some 31) none (.pure (.mv (.t 9)))), false), (
  (.mk (some 32) none (.pure (.bin .quo (.t 31) (.c (.i .i64 2))))), false), (
  (.mk (some 33) none (.pure (.bin .mul (.t 30) (.t 32)))), false), (
  (.mk (some 34) none (.pure (.bin .add (.t 29) (.t 33)))), false), (
  (.mk none none (.st 1 (.t 4) (.t 24))), false), (
  (.mk none none (.st 1 (.t 5) (.t 34))), true)]) (.ops [
  (.mk (some 35) none (.pure (.mv (.t 8)))), 
  (.mk none none (.st 1 (.t 6) (.t 35)))]))))))) (.seq (.ops [
  (.mk (some 36) none (.ld true 1 (.t 4))), 
  (.mk (some 37) none (.ld true 1 (.t 5))), 
  (.mk (some 38) none (.pure (.bin .add (.t 36) (.t 37)))), 
  (.mk (some 2) none (.pure (.mv (.t 38)))), 
  (.mk (some 3) none (.pure (.mv (.c (.i .i64 0)))))]) .ret))))))
def fn29 : AFn := (AFn.mk 31 [(.t 4), (.t 5)] (.seq (.ops [
  (.mk (some 4) none (.pure (.mv (.c (.i .i64 0))))), 
  (.mk (some 5) none (.pure (.mv (.c (.i .i64 0)))))]) (.seq (.seq (.ops [
  (.mk (some 9) none (.pure (.mv (.t 0)))), 
  (.mk (some 10) none (.pure (.mv (.t 1)))), 
  (.mk (some 11) none (.bsl 3 1 [(.i .i64 0)] 2 [((0, 1), (.t 9)), ((1, 1), (.t 10))])), 
  (.mk (some 12) none (.call 51 [(.t 11)])), 
  (.mk (some 13) none (.pure (.not (.t 12))))]) (.cond (.t 13) (.seq (.ops [
  (.mk (some 4) none (.pure (.mv (.c (.i .i64 0))))), 
  (.mk (some 5) none (.pure (.mv (.c (.i .i64 4)))))]) .ret) .skip)) (.seq (.ops [
  (.mk (some 6) none (.pure (.mv (.c (.i .i64 0)))))]) (.seq (.seq (.ops [
  (.mk (some 14) none (.pure (.mv (.t 1)))), 
  (.mk (some 15) none (.call 60 [(.t 14)])), 
  (.mk (some 16) none (.pure (.len false (.t 15)))), 
  (.mk (some 17) none (.pure (.mv (.c (.i .i64 0)))))]) (.block 0 (.loop (.seq (.ops [
  (.mk (some 18) none (.pure (.bin .lss (.t 17) (.t 16))))]) (.seq (.cond (.t 18) .skip (.exit 0)) (.seq (.block 1 (.seq (.ops [
  (.mk (some 19) none (.pure (.ixS 1 (.t 15) (.t 17)))), 
  (.mk (some 20) none (.ld true 1 (.t 19))), 
  (.mk (some 8) none (.pure (.mv (.t 20))))]) (.ops [
  (.mk (some 21) none (.pure (.mv (.t 6)))), 
  (.mk (some 22) none (.pure (.mv (.t 0)))), 
  (.mk (some 23) none (.pure (.mv (.t 8)))), 
  (.mk (some 24) none (.call 63 [(.t 22), (.t 23)])), 
  (.mk (some 25) none (.pure (.bin .add (.t 21) (.t 24)))), 
  (.mk (some 26) none (.pure (.mx false (.t 25) (.c (.i .i64 1152921504606846977))))), 
  (.mk (some 6) none (.pure (.mv (.t 26))))]))) (.ops [
  (.mk (some 27) none (.pure (.bin .add (.t 17) (.c (.i .i64 1))))), 
  (.mk (some 17) none (.pure (.mv (.t 27))))]))))))) (.seq (.seq (.ops [
  (.mk (some 28) none (.pure (.mv (.t 6)))), 
  (.mk (some 29) none (.pure (.bin .gtr (.t 28) (.c (.i .i64 1152921504606846976)))))]) (.cond (.t 29) (.seq (.ops [
  (.mk (some 4) none (.pure (.mv (.c (.i .i64 0))))), 
  (.mk (some 5) none (.pure (.mv (.c (.i .i64 4)))))]) .ret) .skip)) (.seq (.ops [
  (.mk (some 30) none (.pure (.mv (.t 6)))), 
  (.mk (some 4) none (.pure (.mv (.t 30)))), 
  (.mk (some 5) none (.pure (.mv (.c (.i .i64 0)))))]) .ret)))))))
def fn37 : AFn := (AFn.mk 56 [(.t 4), (.t 5), (.t 6)] (.seq (.ops [
  (.mk (some 4) none (.pure (.mv (.c (.i .i64 0))))), 
  (.mk (some 5) none (.pure (.mv (.c (.i .i64 0))))), 
  (.mk (some 6) none (.pure (.mv (.c (.i .i64 0)))))]) (.seq (.seq (.ops [
  (.mk (some 9) none (.pure (.mv (.t 0)))), 
  (.mk (some 10) none (.pure (.mv (.t 1)))), 
  (.mk (some 11) none (.bsl 3 1 [(.i .i64 0)] 2 [((0, 1), (.t 9)), ((1, 1), (.t 10))])), 
  (.mk (some 12) none (.call 51 [(.t 11)])), 
  (.mk (some 13) none (.pure (.not (.t 12))))]) (.cond (.t 13) (.seq (.ops [
  (.mk (some 4) none (.pure (.mv (.c (.i .i64 0))))), 
  (.mk (some 5) none (.pure (.mv (.c (.i .i64 0))))), 
  (.mk (some 6) none (.pure (.mv (.c (.i .i64 4)))))]) .ret) .skip)) (.seq (.seq (.ops [
  (.mk (some 14) none (.pure (.mv (.t 0)))), 
  (.mk (some 15) none (.call 68 [(.t 14)])), 
  (.mk (some 16) none (.pure (.mv (.t 1)))), 
  (.mk (some 17) none (.pure (.bin .eql (.t 15) (.t 16))))]) (.cond (.t 17) (.seq (.ops [
  (.mk (some 4) none (.pure (.mv (.c (.i .i64 0))))), 
  (.mk (some 5) none (.pure (.mv (.c (.i .i64 0))))), 
  (.mk (some 6) none (.pure (.mv (.c (.i .i64 10)))))]) .ret) .skip)) (.seq (.seq (.ops [
  (.mk (some 18) none (.pure (.mv (.t 0)))), 
  (.mk (some 19) none (.call 68 [(.t 18)])), 
  (.mk (some 20) none (.pure (.mv (.t 1)))), 
  (.mk (some 21) none (.pure (.bin .lss (.t 19) (.t 20))))]) (.cond (.t 21) (.seq (.ops [
  (.mk (some 22) none (.pure (.mv (.t 1)))), 
  (.mk (some 23) none (.pure (.mv (.t 0)))), 
  (.mk (some 24) none (.call 68 [(.t 23)])), 
  (.mk (some 25) none (.pure (.bin .sub (.t 22) (.t 24)))), 
  (.mk (some 4) none (.pure (.mv (.c (.i .i64 0))))), 
  (.mk (some 5) none (.pure (.mv (.t 25)))), 
  (.mk (some 6) none (.pure (.mv (.c (.i .i64 0)))))]) .ret) .skip)) (.seq (.ops [
  (.mk (some 26) none (.pure (.mv (.t 0)))), 
  (.mk (some 27) none (.pure (.mv (.t 1)))), 
  (.mk (some 28) none (.call 68 [(.t 27)])), 
  (.mk (some 29) none (.pure (.bin .sub (.t 26) (.t 28)))), 
  (.mk (some 7) none (.pure (.mv (.t 29))))]) (.seq (.ops [
  (.mk (some 30) none (.pure (.mv (.t 0)))), 
  (.mk (some 31) none (.pure (.mv (.t 1)))), 
  (.mk (some 32) none (.pure (.mx false (.t 30) (.t 31)))), 
  (.mk (some 33) none (.pure (.mv (.t 0)))), 
  (.mk (some 34) none (.pure (.mv (.t 1)))), 
  (.mk (some 35) none (.pure (.mx true (.t 33) (.t 34)))), 
  (.mk (some 36) none (.pure (.mv (.t 0)))), 
  (.mk (some 37) none (.pure (.mv (.t 1)))), 
  (.mk (some 38) none (.pure (.mx false (.t 36) (.t 37)))), 
  (.mk (some 39) none (.pure (.bin .sub (.t 35) (.t 38)))), 
  (.mk (some 40) none (.call 66 [(.t 39)])), 
  (.mk (some 41) none (.pure (.bin .sub (.t 32) (.t 40)))), 
  (.mk (some 8) none (.pure (.mv (.t 41))))]) (.seq (.seq (.ops [
  (.mk (some 42) none (.pure (.mv (.t 8)))), 
  (.mk (some 43) none (.pure (.bin .gtr (.t 42) (.c (.i .i64 0))))), 
  (.mk (some 44) none (.pure (.mv (.t 43)))), 
  (.mk (some 45) (some (44, true)) (.pure (.mv (.t 7)))), 
  (.mk (some 46) (some (44, true)) (.pure (.bin .lss (.t 45) (.c (.i .i64 0))))), 
  (.mk (some 47) (some (44, true)) (.pure (.mv (.t 46)))), 
  (.mk (some 48) (some (47, false)) (.pure (.mv (.t 8)))), 
  (.mk (some 49) (some (47, false)) (.pure (.mv (.t 7)))), 
  (.mk (some 50) (some (47, false)) (.pure (.bin .lss (.t 48) (.t 49)))), 
  (.mk (some 51) (some (44, true)) (.pure (.pick (.t 47) (.c (.b true)) (.t 50)))), 
  (.mk (some 52) none (.pure (.pick (.t 44) (.t 51) (.c (.b false)))))]) (.cond (.t 52) (.seq (.ops [
  (.mk (some 53) none (.pure (.mv (.t 8)))), 
  (.mk (some 54) none (.pure (.mv (.t 8)))), 
  (.mk (some 4) none (.pure (.mv (.t 53)))), 
  (.mk (some 5) none (.pure (.mv (.t 54)))), 
  (.mk (some 6) none (.pure (.mv (.c (.i .i64 0)))))]) .ret) .skip)) (.seq (.ops [
  (.mk (some 55) none (.pure (.mv (.t 7)))), 
  (.mk (some 4) none (.pure (.mv (.t 55)))), 
  (.mk (some 5) none (.pure (.mv (.c (.i .i64 0))))), 
  (.mk (some 6) none (.pure (.mv (.c (.i .i64 0)))))]) .ret)))))))))
def fn39 : AFn := (AFn.mk 22 [(.t 4), (.t 5)] (.seq (.ops [
  (.mk (some 4) none (.pure (.mv (.c (.i .i64 0))))), 
  (.mk (some 5) none (.pure (.mv (.c (.i .i64 0)))))]) (.seq (.seq (.ops [
  (.mk (some 7) none (.pure (.mv (.t 0)))), 
  (.mk (some 8) none (.bsl 3 1 [(.i .i64 0)] 1 [((0, 1), (.t 7))])), 
  (.mk (some 9) none (.call 51 [(.t 8)])), 
  (.mk (some 10) none (.pure (.not (.t 9))))]) (.cond (.t 10) (.seq (.ops [
  (.mk (some 4) none (.pure (.mv (.c (.i .i64 0))))), 
  (.mk (some 5) none (.pure (.mv (.c (.i .i64 4)))))]) .ret) .skip)) (.seq (.seq (.ops [
  (.mk (some 11) none (.pure (.mv (.t 1)))), 
  (.mk (some 12) none (.pure (.bin .lss (.t 11) (.c (.i .i64 1)))))]) (.cond (.t 12) (.seq (.ops [
  (.mk (some 4) none (.pure (.mv (.c (.i .i64 0))))), 
  (.mk (some 5) none (.pure (.mv (.c (.i .i64 2)))))]) .ret) .skip)) (.seq (.seq (.ops [
  (.mk (some 13) none (.pure (.mv (.t 0)))), 
  (.mk (some 14) none (.pure (.bin .eql (.t 13) (.c (.i .i64 0)))))]) (.cond (.t 14) (.seq (.ops [
  (.mk (some 4) none (.pure (.mv (.c (.i .i64 0))))), 
  (.mk (some 5) none (.pure (.mv (.c (.i .i64 10)))))]) .ret) .skip)) (.seq (.ops [
  (.mk (some 15) none (.pure (.mv (.t 0)))), 
  (.mk (some 16) none (.call 72 [(.t 15)])), 
  (.mk (some 17) none (.call 71 [(.t 16)])), 
  (.mk (some 6) none (.pure (.mv (.t 17))))]) (.seq (.seq (.ops [
  (.mk (some 18) none (.pure (.mv (.t 6)))), 
  (.mk (some 19) none (.pure (.mv (.t 1)))), 
  (.mk (some 20) none (.pure (.bin .gtr (.t 18) (.t 19))))]) (.cond (.t 20) (.seq (.ops [
  (.mk (some 4) none (.pure (.mv (.c (.i .i64 0))))), 
  (.mk (some 5) none (.pure (.mv (.c (.i .i64 10)))))]) .ret) .skip)) (.seq (.ops [
  (.mk (some 21) none (.pure (.mv (.t 6)))), 
  (.mk (some 4) none (.pure (.mv (.t 21)))), 
  (.mk (some 5) none (.pure (.mv (.c (.i .i64 0)))))]) .ret))))))))
def fn51 : AFn := (AFn.mk 18 [(.t 2)] (.seq (.ops [
  (.mk (some 2) none (.pure (.mv (.c (.b false)))))]) (.seq (.seq (.ops [
  (.mk (some 5) none (.pure (.mv (.t 0)))), 
  (.mk (some 6) none (.pure (.len false (.t 5)))), 
  (.mk (some 7) none (.pure (.mv (.c (.i .i64 0)))))]) (.block 0 (.loop (.seq (.ops [
  (.mk (some 8) none (.pure (.bin .lss (.t 7) (.t 6))))]) (.seq (.cond (.t 8) .skip (.exit 0)) (.seq (.block 1 (.seq (.ops [
  (.mk (some 9) none (.pure (.ixS 1 (.t 5) (.t 7)))), 
  (.mk (some 10) none (.ld true 1 (.t 9))), 
  (.mk (some 4) none (.pure (.mv (.t 10))))]) (.seq (.ops [
  (.mk (some 11) none (.pure (.mv (.t 4)))), 
  (.mk (some 12) none (.pure (.bin .lss (.t 11) (.c (.i .i64 0))))), 
  (.mk (some 13) none (.pure (.mv (.t 12)))), 
  (.mk (some 14) (some (13, false)) (.pure (.mv (.t 4)))), 
  (.mk (some 15) (some (13, false)) (.pure (.bin .gtr (.t 14) (.c (.i .i64 1152921504606846976))))), 
  (.mk (some 16) none (.pure (.pick (.t 13) (.c (.b true)) (.t 15))))]) (.cond (.t 16) (.seq (.ops [
  (.mk (some 2) none (.pure (.mv (.c (.b false)))))]) .ret) .skip)))) (.ops [
  (.mk (some 17) none (.pure (.bin .add (.t 7) (.c (.i .i64 1))))), 
  (.mk (some 7) none (.pure (.mv (.t 17))))]))))))) (.seq (.ops [
  (.mk (some 2) none (.pure (.mv (.c (.b true)))))]) .ret))))
def fn52 : AFn := (AFn.mk 35 [(.t 2)] (.seq (.ops [
  (.mk (some 2) none (.pure (.mv (.c (.s [])))))]) (.seq (.seq (.ops [
  (.mk (some 8) none (.pure (.mv (.t 0)))), 
  (.mk (some 9) none (.pure (.bin .eql (.t 8) (.c (.i .i64 0)))))]) (.cond (.t 9) (.seq (.ops [
  (.mk (some 2) none (.pure (.mv (.c (.s [48])))))]) .ret) .skip)) (.seq (.ops [
  (.mk (some 10) none (.pure (.mv (.t 0)))), 
  (.mk (some 11) none (.call 60 [(.t 10)])), 
  (.mk (some 3) none (.pure (.mv (.t 11))))]) (.seq (.ops [
  (.mk (some 12) none (.pure (.mv (.t 3)))), 
  (.mk (some 13) none (.pure (.ixS 1 (.t 12) (.c (.i .i64 0))))), 
  (.mk (some 14) none (.ld true 1 (.t 13))), 
  (.mk (some 4) none (.pure (.mv (.t 14))))]) (.seq (.ops [
  (.mk (some 15) none (.bsl 5 1 [(.i .u8 0)] 1 [((0, 1), (.c (.i .u8 48)))])), 
  (.mk (some 16) none (.mks (.t 15))), 
  (.mk (some 17) none (.pure (.mv (.t 4)))), 
  (.mk (some 18) none (.pure (.bin .sub (.t 17) (.c (.i .i64 2))))), 
  (.mk (some 19) none (.pure (.bin .add (.t 18) (.c (.i .i64 1))))), 
  (.mk (some 20) none (.call 73 [(.t 16), (.t 19)])), 
  (.mk (some 5) none (.pure (.mv (.t 20))))]) (.seq (.seq (.ops [
  (.mk (some 21) none (.pure (.mv (.t 3)))), 
  (.mk (some 22) none (.pure (.len false (.t 21)))), 
  (.mk (some 23) none (.pure (.mv (.c (.i .i64 0)))))]) (.block 0 (.loop (.seq (.ops [
  (.mk (some 24) none (.pure (.bin .lss (.t 23) (.t 22))))]) (.seq (.cond (.t 24) .skip (.exit 0)) (.seq (.block 1 (.seq (.ops [
  (.mk (some 25) none (.pure (.ixS 1 (.t 21) (.t 23)))), 
  (.mk (some 26) none (.ld true 1 (.t 25))), 
  (.mk (some 7) none (.pure (.mv (.t 26))))]) (.ops [
  (.mk (some 27) none (.pure (.mv (.t 5)))), 
  (.mk (some 28) none (.pure (.mv (.t 4)))), 
  (.mk (some 29) none (.pure (.mv (.t 7)))), 
  (.mk (some 30) none (.pure (.bin .sub (.t 28) (.t 29)))), 
  (.mk (some 31) none (.pure (.ixS 1 (.t 27) (.t 30)))), 
  (.mk none none (.st 1 (.t 31) (.c (.i .u8 49))))]))) (.ops [
  (.mk (some 32) none (.pure (.bin .add (.t 23) (.c (.i .i64 1))))), 
  (.mk (some 23) none (.pure (.mv (.t 32))))]))))))) (.seq (.ops [
  (.mk (some 33) none (.pure (.mv (.t 5)))), 
  (.mk (some 34) none (.bts (.t 33))), 
  (.mk (some 2) none (.pure (.mv (.t 34))))]) .ret))))))))
def fn55 : AFn := (AFn.mk 32 [(.t 2)] (.seq (.ops [
  (.mk (some 2) none (.pure (.mv (.c (.b false)))))]) (.seq (.ops [
  (.mk (some 3) none (.pure (.mv (.c (.i .i32 48)))))]) (.seq (.seq (.ops [
  (.mk (some 6) none (.pure (.mv (.t 0)))), 
  (.mk (some 7) none (.rgs (.t 6)))]) (.block 0 (.loop (.seq (.ops [
  (.mk (some 8) none (.nxs (.t 7))), 
  (.mk (some 9) none (.pure (.ext 0 (.t 8))))]) (.seq (.cond (.t 9) .skip (.exit 0)) (.block 1 (.seq (.ops [
  (.mk (some 10) none (.pure (.ext 2 (.t 8)))), 
  (.mk (some 5) none (.pure (.mv (.t 10))))]) (.seq (.seq (.ops [
  (.mk (some 11) none (.pure (.mv (.t 5)))), 
  (.mk (some 12) none (.pure (.bin .neq (.t 11) (.c (.i .i32 48))))), 
  (.mk (some 13) none (.pure (.mv (.t 12)))), 
  (.mk (some 14) (some (13, true)) (.pure (.mv (.t 5)))), 
  (.mk (some 15) (some (13, true)) (.pure (.bin .neq (.t 14) (.c (.i .i32 49))))), 
  (.mk (some 16) none (.pure (.pick (.t 13) (.t 15) (.c (.b false))))), 
  (.mk (some 17) none (.pure (.mv (.t 16)))), 
  (.mk (some 18) (some (17, false)) (.pure (.mv (.t 5)))), 
  (.mk (some 19) (some (17, false)) (.pure (.bin .eql (.t 18) (.c (.i .i32 49))))), 
  (.mk (some 20) (some (17, false)) (.pure (.mv (.t 19)))), 
  (.mk (some 21) (some (20, true)) (.pure (.mv (.t 3)))), 
  (.mk (some 22) (some (20, true)) (.pure (.bin .eql (.t 21) (.c (.i .i32 49))))), 
  (.mk (some 23) (some (17, false)) (.pure (.pick (.t 20) (.t 22) (.c (.b false))))), 
  (.mk (some 24) none (.pure (.pick (.t 17) (.c (.b true)) (.t 23))))]) (.cond (.t 24) (.seq (.ops [
  (.mk (some 2) none (.pure (.mv (.c (.b false)))))]) .ret) .skip)) (.ops [
  (.mk (some 25) none (.pure (.mv (.t 5)))), 
  (.mk (some 3) none (.pure (.mv (.t 25))))]))))))))) (.seq (.ops [
  (.mk (some 26) none (.pure (.mv (.t 0)))), 
  (.mk (some 27) none (.pure (.sbin .eql (.t 26) (.c (.s [48]))))), 
  (.mk (some 28) none (.pure (.mv (.t 27)))), 
  (.mk (some 29) (some (28, false)) (.pure (.mv (.t 0)))), 
  (.mk (some 30) (some (28, false)) (.call 74 [(.t 29), (.c (.s [49]))])), 
  (.mk (some 31) none (.pure (.pick (.t 28) (.c (.b true)) (.t 30)))), 
  (.mk (some 2) none (.pure (.mv (.t 31))))]) .ret)))))
def fn56 : AFn := (AFn.mk 30 [(.t 2)] (.seq (.ops [
  (.mk (some 2) none (.pure (.mv (.c (.i .i64 0)))))]) (.seq (.ops [
  (.mk (some 3) none (.pure (.mv (.c (.i .i64 0)))))]) (.seq (.seq (.ops [
  (.mk (some 7) none (.pure (.mv (.t 0)))), 
  (.mk (some 8) none (.rgs (.t 7)))]) (.block 0 (.loop (.seq (.ops [
  (.mk (some 9) none (.nxs (.t 8))), 
  (.mk (some 10) none (.pure (.ext 0 (.t 9))))]) (.seq (.cond (.t 10) .skip (.exit 0)) (.block 1 (.seq (.ops [
  (.mk (some 11) none (.pure (.ext 1 (.t 9)))), 
  (.mk (some 12) none (.pure (.ext 2 (.t 9)))), 
  (.mk (some 4) none (.pure (.mv (.t 11)))), 
  (.mk (some 5) none (.pure (.mv (.t 12))))]) (.seq (.ops [
  (.mk (some 13) none (.pure (.mv (.t 0)))), 
  (.mk (some 14) none (.pure (.len true (.t 13)))), 
  (.mk (some 15) none (.pure (.bin .sub (.t 14) (.c (.i .i64 1))))), 
  (.mk (some 16) none (.pure (.mv (.t 4)))), 
  (.mk (some 17) none (.pure (.bin .sub (.t 15) (.t 16)))), 
  (.mk (some 18) none (.pure (.bin .add (.t 17) (.c (.i .i64 2))))), 
  (.mk (some 19) none (.call 71 [(.t 18)])), 
  (.mk (some 6) none (.pure (.mv (.t 19))))]) (.seq (.ops [
  (.mk (some 20) none (.pure (.mv (.t 5)))), 
  (.mk (some 21) none (.pure (.bin .sub (.t 20) (.c (.i .i32 48))))), 
  (.mk (some 22) none (.pure (.mv (.c (.i .i32 0)))))]) (.block 2 (.loop (.seq (.ops [
  (.mk (some 23) none (.pure (.bin .lss (.t 22) (.t 21))))]) (.seq (.cond (.t 23) .skip (.exit 2)) (.seq (.block 3 (.ops [
  (.mk (some 24) none (.pure (.mv (.t 3)))), 
  (.mk (some 25) none (.pure (.mv (.t 6)))), 
  (.mk (some 26) none (.pure (.bin .add (.t 24) (.t 25)))), 
  (.mk (some 27) none (.pure (.mx false (.t 26) (.c (.i .i64 1152921504606846977))))), 
  (.mk (some 3) none (.pure (.mv (.t 27))))])) (.ops [
  (.mk (some 28) none (.pure (.bin .add (.t 22) (.c (.i .i32 1))))), 
  (.mk (some 22) none (.pure (.mv (.t 28))))]))))))))))))))) (.seq (.ops [
  (.mk (some 29) none (.pure (.mv (.t 3)))), 
  (.mk (some 2) none (.pure (.mv (.t 29))))]) .ret)))))
def fn58 : AFn := (AFn.mk 18 [(.t 2)] (.seq (.ops [
  (.mk (some 2) none (.pure (.mv (.c (.b false)))))]) (.seq (.seq (.ops [
  (.mk (some 5) none (.pure (.mv (.t 0)))), 
  (.mk (some 6) none (.rgs (.t 5)))]) (.block 0 (.loop (.seq (.ops [
  (.mk (some 7) none (.nxs (.t 6))), 
  (.mk (some 8) none (.pure (.ext 0 (.t 7))))]) (.seq (.cond (.t 8) .skip (.exit 0)) (.block 1 (.seq (.ops [
  (.mk (some 9) none (.pure (.ext 2 (.t 7)))), 
  (.mk (some 4) none (.pure (.mv (.t 9))))]) (.seq (.ops [
  (.mk (some 10) none (.pure (.mv (.t 4)))), 
  (.mk (some 11) none (.pure (.bin .lss (.t 10) (.c (.i .i32 48))))), 
  (.mk (some 12) none (.pure (.mv (.t 11)))), 
  (.mk (some 13) (some (12, false)) (.pure (.mv (.t 4)))), 
  (.mk (some 14) (some (12, false)) (.pure (.bin .gtr (.t 13) (.c (.i .i32 57))))), 
  (.mk (some 15) none (.pure (.pick (.t 12) (.c (.b true)) (.t 14))))]) (.cond (.t 15) (.seq (.ops [
  (.mk (some 2) none (.pure (.mv (.c (.b false)))))]) .ret) .skip))))))))) (.seq (.ops [
  (.mk (some 16) none (.pure (.mv (.t 0)))), 
  (.mk (some 17) none (.pure (.sbin .neq (.t 16) (.c (.s []))))), 
  (.mk (some 2) none (.pure (.mv (.t 17))))]) .ret))))
def fn59 : AFn := (AFn.mk 4 [(.t 2)] (.seq (.ops [
  (.mk (some 1) none (.bx 50 1 (.t 0))), 
  (.mk (some 2) none (.pure (.mv (.c .nfn))))]) (.seq (.ops [
  (.mk (some 3) none (.pure (.mkfn 75 [] [(.t 1)]))), 
  (.mk (some 2) none (.pure (.mv (.t 3))))]) .ret)))
def fn60 : AFn := (AFn.mk 28 [(.t 2)] (.seq (.ops [
  (.mk (some 2) none (.pure (.mv (.c .nsl))))]) (.seq (.ops [
  (.mk (some 3) none (.pure (.mv (.c .nsl))))]) (.seq (.ops [
  (.mk (some 7) none (.call 71 [(.c (.i .i64 88))])), 
  (.mk (some 8) none (.call 71 [(.c (.i .i64 87))])), 
  (.mk (some 4) none (.pure (.mv (.t 7)))), 
  (.mk (some 5) none (.pure (.mv (.t 8))))]) (.seq (.seq (.ops [
  (.mk (some 6) none (.pure (.mv (.c (.i .i64 88)))))]) (.block 0 (.loop (.seq (.seq (.ops [
  (.mk (some 9) none (.pure (.mv (.t 0)))), 
  (.mk (some 10) none (.pure (.bin .gtr (.t 9) (.c (.i .i64 0)))))]) (.cond (.t 10) .skip (.exit 0))) (.seq (.block 1 (.seq (.seq (.ops [
  (.mk (some 13) none (.pure (.mv (.t 4)))), 
  (.mk (some 14) none (.pure (.mv (.t 0)))), 
  (.mk (some 15) none (.pure (.bin .leq (.t 13) (.t 14))))]) (.cond (.t 15) (.seq (.ops [
  (.mk (some 16) none (.pure (.mv (.t 3)))), 
  (.mk (some 17) none (.pure (.mv (.t 6)))), 
  (.mk (some 18) none (.bsl 3 1 [(.i .i64 0)] 1 [((0, 1), (.t 17))])), 
  (.mk (some 19) none (.app 3 1 8 [(.i .i64 0)] (.t 16) (.t 18))), 
  (.mk (some 3) none (.pure (.mv (.t 19))))]) (.ops [
  (.mk (some 20) none (.pure (.mv (.t 0)))), 
  (.mk (some 21) none (.pure (.mv (.t 4)))), 
  (.mk (some 22) none (.pure (.bin .sub (.t 20) (.t 21)))), 
  (.mk (some 0) none (.pure (.mv (.t 22))))])) .skip)) (.ops [
  (.mk (some 23) none (.pure (.mv (.t 5)))), 
  (.mk (some 24) none (.pure (.mv (.t 4)))), 
  (.mk (some 25) none (.pure (.mv (.t 5)))), 
  (.mk (some 26) none (.pure (.bin .sub (.t 24) (.t 25)))), 
  (.mk (some 4) none (.pure (.mv (.t 23)))), 
  (.mk (some 5) none (.pure (.mv (.t 26))))]))) (.ops [
  (.mk (some 11) none (.pure (.mv (.t 6)))), 
  (.mk (some 12) none (.pure (.bin .sub (.t 11) (.c (.i .i64 1))))), 
  (.mk (some 6) none (.pure (.mv (.t 12))))])))))) (.seq (.ops [
  (.mk (some 27) none (.pure (.mv (.t 3)))), 
  (.mk (some 2) none (.pure (.mv (.t 27))))]) .ret))))))
def fn63 : AFn := (AFn.mk 24 [(.t 4)] (.seq (.ops [
  (.mk (some 4) none (.pure (.mv (.c (.i .i64 0)))))]) (.seq (.ops [
  (.mk (some 5) none (.pure (.mv (.c (.i .i64 0)))))]) (.seq (.seq (.ops [
  (.mk (some 8) none (.pure (.mv (.t 0)))), 
  (.mk (some 9) none (.call 60 [(.t 8)])), 
  (.mk (some 10) none (.pure (.len false (.t 9)))), 
  (.mk (some 11) none (.pure (.mv (.c (.i .i64 0)))))]) (.block 0 (.loop (.seq (.ops [
  (.mk (some 12) none (.pure (.bin .lss (.t 11) (.t 10))))]) (.seq (.cond (.t 12) .skip (.exit 0)) (.seq (.block 1 (.seq (.ops [
  (.mk (some 13) none (.pure (.ixS 1 (.t 9) (.t 11)))), 
  (.mk (some 14) none (.ld true 1 (.t 13))), 
  (.mk (some 7) none (.pure (.mv (.t 14))))]) (.ops [
  (.mk (some 15) none (.pure (.mv (.t 5)))), 
  (.mk (some 16) none (.pure (.mv (.t 7)))), 
  (.mk (some 17) none (.pure (.mv (.t 1)))), 
  (.mk (some 18) none (.pure (.bin .add (.t 16) (.t 17)))), 
  (.mk (some 19) none (.call 71 [(.t 18)])), 
  (.mk (some 20) none (.pure (.bin .add (.t 15) (.t 19)))), 
  (.mk (some 21) none (.pure (.mx false (.t 20) (.c (.i .i64 1152921504606846977))))), 
  (.mk (some 5) none (.pure (.mv (.t 21))))]))) (.ops [
  (.mk (some 22) none (.pure (.bin .add (.t 11) (.c (.i .i64 1))))), 
  (.mk (some 11) none (.pure (.mv (.t 22))))]))))))) (.seq (.ops [
  (.mk (some 23) none (.pure (.mv (.t 5)))), 
  (.mk (some 4) none (.pure (.mv (.t 23))))]) .ret)))))
def fn66 : AFn := (AFn.mk 9 [(.t 2)] (.seq (.ops [
  (.mk (some 2) none (.pure (.mv (.c (.i .i64 0)))))]) (.seq (.seq (.ops [
  (.mk (some 3) none (.pure (.mv (.t 0)))), 
  (.mk (some 4) none (.pure (.bin .eql (.t 3) (.c (.i .i64 0)))))]) (.cond (.t 4) (.seq (.ops [
  (.mk (some 2) none (.pure (.mv (.c (.i .i64 0)))))]) .ret) .skip)) (.seq (.ops [
  (.mk (some 5) none (.pure (.mv (.t 0)))), 
  (.mk (some 6) none (.pure (.bin .sub (.t 5) (.c (.i .i64 1))))), 
  (.mk (some 7) none (.call 63 [(.t 6), (.c (.i .i64 1))])), 
  (.mk (some 8) none (.pure (.bin .add (.t 7) (.c (.i .i64 1))))), 
  (.mk (some 2) none (.pure (.mv (.t 8))))]) .ret))))
def fn68 : AFn := (AFn.mk 16 [(.t 2)] (.seq (.ops [
  (.mk (some 2) none (.pure (.mv (.c (.i .i64 0)))))]) (.seq (.seq (.ops [
  (.mk (some 4) none (.pure (.mv (.t 0)))), 
  (.mk (some 5) none (.pure (.bin .eql (.t 4) (.c (.i .i64 0)))))]) (.cond (.t 5) (.seq (.ops [
  (.mk (some 2) none (.pure (.mv (.c (.i .i64 0)))))]) .ret) .skip)) (.seq (.seq (.ops [
  (.mk (some 6) none (.pure (.mv (.t 0)))), 
  (.mk (some 7) none (.call 72 [(.t 6)])), 
  (.mk (some 8) none (.pure (.bin .sub (.t 7) (.c (.i .i64 2))))), 
  (.mk (some 3) none (.pure (.mv (.t 8))))]) (.seq (.ops [
  (.mk (some 9) none (.pure (.mv (.t 3)))), 
  (.mk (some 10) none (.pure (.bin .rem (.t 9) (.c (.i .i64 2))))), 
  (.mk (some 11) none (.pure (.bin .eql (.t 10) (.c (.i .i64 0)))))]) (.cond (.t 11) (.seq (.ops [
  (.mk (some 12) none (.pure (.mv (.t 0)))), 
  (.mk (some 13) none (.call 63 [(.t 12), (.c (.i .i64 1))])), 
  (.mk (some 2) none (.pure (.mv (.t 13))))]) .ret) .skip))) (.seq (.ops [
  (.mk (some 14) none (.pure (.mv (.t 0)))), 
  (.mk (some 15) none (.call 63 [(.t 14), (.c (.i .i64 (-1)))])), 
  (.mk (some 2) none (.pure (.mv (.t 15))))]) .ret)))))
def fn71 : AFn := (AFn.mk 25 [(.t 2)] (.seq (.ops [
  (.mk (some 2) none (.pure (.mv (.c (.i .i64 0)))))]) (.seq (.ops [
  (.mk (some 3) none (.pure (.mv (.c (.i .i64 0))))), 
  (.mk (some 4) none (.pure (.mv (.c (.i .i64 1)))))]) (.seq (.seq (.ops [
  (.mk (some 5) none (.pure (.mv (.t 0)))), 
  (.mk (some 6) none (.pure (.mx false (.t 5) (.c (.i .i64 89))))), 
  (.mk (some 7) none (.pure (.mv (.c (.i .i64 0)))))]) (.block 0 (.loop (.seq (.ops [
  (.mk (some 8) none (.pure (.bin .lss (.t 7) (.t 6))))]) (.seq (.cond (.t 8) .skip (.exit 0)) (.seq (.block 1 (.ops [
  (.mk (some 9) none (.pure (.mv (.t 4)))), 
  (.mk (some 10) none (.pure (.mv (.t 3)))), 
  (.mk (some 11) none (.pure (.mv (.t 4)))), 
  (.mk (some 12) none (.pure (.bin .add (.t 10) (.t 11)))), 
  (.mk (some 13) none (.pure (.mx false (.t 12) (.c (.i .i64 1152921504606846977))))), 
  (.mk (some 3) none (.pure (.mv (.t 9)))), 
  (.mk (some 4) none (.pure (.mv (.t 13))))])) (.ops [
  (.mk (some 14) none (.pure (.bin .add (.t 7) (.c (.i .i64 1))))), 
  (.mk (some 7) none (.pure (.mv (.t 14))))]))))))) (.seq (.seq (.ops [
  (.mk (some 15) none (.pure (.mv (.t 0)))), 
  (.mk (some 16) none (.pure (.neg (.t 15)))), 
  (.mk (some 17) none (.pure (.mv (.c (.i .i64 0)))))]) (.block 2 (.loop (.seq (.ops [
  (.mk (some 18) none (.pure (.bin .lss (.t 17) (.t 16))))]) (.seq (.cond (.t 18) .skip (.exit 2)) (.seq (.block 3 (.ops [
  (.mk (some 19) none (.pure (.mv (.t 4)))), 
  (.mk (some 20) none (.pure (.mv (.t 3)))), 
  (.mk (some 21) none (.pure (.bin .sub (.t 19) (.t 20)))), 
  (.mk (some 22) none (.pure (.mv (.t 3)))), 
  (.mk (some 3) none (.pure (.mv (.t 21)))), 
  (.mk (some 4) none (.pure (.mv (.t 22))))])) (.ops [
  (.mk (some 23) none (.pure (.bin .add (.t 17) (.c (.i .i64 1))))), 
  (.mk (some 17) none (.pure (.mv (.t 23))))]))))))) (.seq (.ops [
  (.mk (some 24) none (.pure (.mv (.t 3)))), 
  (.mk (some 2) none (.pure (.mv (.t 24))))]) .ret))))))
def fn72 : AFn := (AFn.mk 12 [(.t 2)] (.seq (.ops [
  (.mk (some 2) none (.pure (.mv (.c (.i .i64 0)))))]) (.seq (.ops [
  (.mk (some 4) none (.pure (.mv (.t 0)))), 
  (.mk (some 5) none (.call 60 [(.t 4)])), 
  (.mk (some 3) none (.pure (.mv (.t 5))))]) (.seq (.ops [
  (.mk (some 6) none (.pure (.mv (.t 3)))), 
  (.mk (some 7) none (.pure (.mv (.t 3)))), 
  (.mk (some 8) none (.pure (.len false (.t 7)))), 
  (.mk (some 9) none (.pure (.bin .sub (.t 8) (.c (.i .i64 1))))), 
  (.mk (some 10) none (.pure (.ixS 1 (.t 6) (.t 9)))), 
  (.mk (some 11) none (.ld true 1 (.t 10))), 
  (.mk (some 2) none (.pure (.mv (.t 11))))]) .ret))))
def fn73 : AFn := (AFn.mk 77 [(.t 4)] (.seq (.ops [
  (.mk (some 4) none (.pure (.mv (.c .nsl))))]) (.seq (.seq (.ops [
  (.mk (some 12) none (.pure (.mv (.t 1)))), 
  (.mk (some 13) none (.pure (.bin .eql (.t 12) (.c (.i .i64 0)))))]) (.cond (.t 13) (.seq (.ops [
  (.mk (some 14) none (.bsl 5 1 [(.i .u8 0)] 0 [])), 
  (.mk (some 4) none (.pure (.mv (.t 14))))]) .ret) .skip)) (.seq (.seq (.ops [
  (.mk (some 15) none (.pure (.mv (.t 1)))), 
  (.mk (some 16) none (.pure (.bin .lss (.t 15) (.c (.i .i64 0)))))]) (.cond (.t 16) (.ops [
  (.mk none none (.ld true 1 (.c (.b true))))]) .skip)) (.seq (.ops [
  (.mk (some 19) none (.pure (.mv (.t 0)))), 
  (.mk (some 20) none (.pure (.len false (.t 19)))), 
  (.mk (some 21) none (.pure (.conv .u64 (.t 20)))), 
  (.mk (some 22) none (.pure (.mv (.t 1)))), 
  (.mk (some 23) none (.pure (.conv .u64 (.t 22)))), 
  (.mk (some 24) none (.call 78 [(.t 21), (.t 23)])), 
  (.mk (some 18) none (.pure (.mv (.t 24)))), 
  (.mk (some 25) none (.pure (.ext 0 (.t 18)))), 
  (.mk (some 26) none (.pure (.ext 1 (.t 18)))), 
  (.mk (some 5) none (.pure (.mv (.t 25)))), 
  (.mk (some 6) none (.pure (.mv (.t 26))))]) (.seq (.seq (.ops [
  (.mk (some 27) none (.pure (.mv (.t 5)))), 
  (.mk (some 28) none (.pure (.bin .gtr (.t 27) (.c (.i .u64 0))))), 
  (.mk (some 29) none (.pure (.mv (.t 28)))), 
  (.mk (some 30) (some (29, false)) (.pure (.mv (.t 6)))), 
  (.mk (some 31) (some (29, false)) (.pure (.bin .gtr (.t 30) (.c (.i .u64 9223372036854775807))))), 
  (.mk (some 32) none (.pure (.pick (.t 29) (.c (.b true)) (.t 31))))]) (.cond (.t 32) (.ops [
  (.mk none none (.ld true 1 (.c (.b true))))]) .skip)) (.seq (.ops [
  (.mk (some 34) none (.pure (.mv (.t 6)))), 
  (.mk (some 35) none (.pure (.conv .i64 (.t 34)))), 
  (.mk (some 7) none (.pure (.mv (.t 35))))]) (.seq (.seq (.ops [
  (.mk (some 36) none (.pure (.mv (.t 0)))), 
  (.mk (some 37) none (.pure (.len false (.t 36)))), 
  (.mk (some 38) none (.pure (.bin .eql (.t 37) (.c (.i .i64 0)))))]) (.cond (.t 38) (.seq (.ops [
  (.mk (some 39) none (.bsl 5 1 [(.i .u8 0)] 0 [])), 
  (.mk (some 4) none (.pure (.mv (.t 39))))]) .ret) .skip)) (.seq (.ops [
  (.mk (some 40) none (.pure (.mv (.t 7)))), 
  (.mk (some 8) none (.pure (.mv (.t 40))))]) (.seq (.seq (.ops [
  (.mk (some 41) none (.pure (.mv (.t 8)))), 
  (.mk (some 42) none (.pure (.bin .gtr (.t 41) (.c (.i .i64 8192)))))]) (.cond (.t 42) (.seq (.ops [
  (.mk (some 43) none (.pure (.mv (.t 0)))), 
  (.mk (some 44) none (.pure (.len false (.t 43)))), 
  (.mk (some 45) none (.pure (.bin .quo (.c (.i .i64 8192)) (.t 44)))), 
  (.mk (some 46) none (.pure (.mv (.t 0)))), 
  (.mk (some 47) none (.pure (.len false (.t 46)))), 
  (.mk (some 48) none (.pure (.bin .mul (.t 45) (.t 47)))), 
  (.mk (some 8) none (.pure (.mv (.t 48))))]) (.seq (.ops [
  (.mk (some 49) none (.pure (.mv (.t 8)))), 
  (.mk (some 50) none (.pure (.bin .eql (.t 49) (.c (.i .i64 0)))))]) (.cond (.t 50) (.ops [
  (.mk (some 51) none (.pure (.mv (.t 0)))), 
  (.mk (some 52) none (.pure (.len false (.t 51)))), 
  (.mk (some 8) none (.pure (.mv (.t 52))))]) .skip))) .skip)) (.seq (.ops [
  (.mk (some 53) none (.pure (.mv (.t 7)))), 
  (.mk (some 54) none (.mnz 5 (.t 53))), 
  (.mk (some 55) none (.pure (.mv (.t 7)))), 
  (.mk (some 56) none (.pure (.mv (.t 7)))), 
  (.mk (some 57) none (.pure (.slS 1 (.t 54) none (some (.t 55)) (some (.t 56))))), 
  (.mk (some 9) none (.pure (.mv (.t 57))))]) (.seq (.ops [
  (.mk (some 58) none (.pure (.mv (.t 9)))), 
  (.mk (some 59) none (.pure (.mv (.t 0)))), 
  (.mk (some 60) none (.cpy 1 (.t 58) (.t 59))), 
  (.mk (some 10) none (.pure (.mv (.t 60))))]) (.seq (.block 0 (.loop (.seq (.seq (.ops [
  (.mk (some 61) none (.pure (.mv (.t 10)))), 
  (.mk (some 62) none (.pure (.mv (.t 7)))), 
  (.mk (some 63) none (.pure (.bin .lss (.t 61) (.t 62))))]) (.cond (.t 63) .skip (.exit 0))) (.block 1 (.seq (.ops [
  (.mk (some 64) none (.pure (.mv (.t 10)))), 
  (.mk (some 65) none (.pure (.mv (.t 8)))), 
  (.mk (some 66) none (.pure (.mx false (.t 64) (.t 65)))), 
  (.mk (some 11) none (.pure (.mv (.t 66))))]) (.ops [
  (.mk (some 67) none (.pure (.mv (.t 10)))), 
  (.mk (some 68) none (.pure (.mv (.t 9)))), 
  (.mk (some 69) none (.pure (.mv (.t 10)))), 
  (.mk (some 70) none (.pure (.slS 1 (.t 68) (some (.t 69)) none none))), 
  (.mk (some 71) none (.pure (.mv (.t 9)))), 
  (.mk (some 72) none (.pure (.mv (.t 11)))), 
  (.mk (some 73) none (.pure (.slS 1 (.t 71) none (some (.t 72)) none))), 
  (.mk (some 74) none (.cpy 1 (.t 70) (.t 73))), 
  (.mk (some 75) none (.pure (.bin .add (.t 67) (.t 74)))), 
  (.mk (some 10) none (.pure (.mv (.t 75))))])))))) (.seq (.ops [
  (.mk (some 76) none (.pure (.mv (.t 9)))), 
  (.mk (some 4) none (.pure (.mv (.t 76))))]) .ret))))))))))))))
def fn74 : AFn := (AFn.mk 8 [(.t 4)] (.seq (.ops [
  (.mk (some 4) none (.pure (.mv (.c (.b false)))))]) (.seq (.ops [
  (.mk (some 5) none (.pure (.mv (.t 0)))), 
  (.mk (some 6) none (.pure (.mv (.t 1)))), 
  (.mk (some 7) none (.call 80 [(.t 5), (.t 6)])), 
  (.mk (some 4) none (.pure (.mv (.t 7))))]) .ret)))
def fn75 : AFn := (AFn.mk 19 [] (.seq (.ops [
  (.mk (some 4) none (.ld true 1 (.t 1))), 
  (.mk (some 5) none (.pure (.len false (.t 4)))), 
  (.mk (some 6) none (.pure (.bin .sub (.t 5) (.c (.i .i64 1))))), 
  (.mk (some 3) none (.pure (.mv (.t 6))))]) (.block 0 (.loop (.seq (.seq (.ops [
  (.mk (some 7) none (.pure (.mv (.t 3)))), 
  (.mk (some 8) none (.pure (.bin .geq (.t 7) (.c (.i .i64 0)))))]) (.cond (.t 8) .skip (.exit 0))) (.seq (.block 1 (.seq (.opsY [
  (.mk (some 11) none (.pure (.mv (.t 0)))), 
  (.mk (some 12) none (.pure (.mv (.t 3)))), 
  (.mk (some 13) none (.ld true 1 (.t 1))), 
  (.mk (some 14) none (.pure (.mv (.t 3)))), 
  (.mk (some 15) none (.pure (.ixS 1 (.t 13) (.t 14)))), 
  (.mk (some 16) none (.ld true 1 (.t 15))), 
  (.mk (some 17) none (.callv (.t 11) [(.t 12), (.t 16)])), 
  (.mk (some 18) none (.pure (.not (.t 17))))]) (.cond (.t 18) .ret .skip))) (.ops [
  (.mk (some 9) none (.pure (.mv (.t 3)))), 
  (.mk (some 10) none (.pure (.bin .sub (.t 9) (.c (.i .i64 1))))), 
  (.mk (some 3) none (.pure (.mv (.t 10))))])))))))
def fn78 : AFn := (AFn.mk 30 [(.t 4), (.t 5)] (.seq (.ops [
  (.mk (some 4) none (.pure (.mv (.c (.i .u64 0))))), 
  (.mk (some 5) none (.pure (.mv (.c (.i .u64 0)))))]) (.seq (.cond (.c (.b false)) (.seq (.ops [
  (.mk (some 11) none (.pure (.mv (.t 0)))), 
  (.mk (some 12) none (.pure (.conv .u32 (.t 11)))), 
  (.mk (some 13) none (.pure (.mv (.t 1)))), 
  (.mk (some 14) none (.pure (.conv .u32 (.t 13)))), 
  (.mk (some 15) none (.call 85 [(.t 12), (.t 14)])), 
  (.mk (some 10) none (.pure (.mv (.t 15)))), 
  (.mk (some 16) none (.pure (.ext 0 (.t 10)))), 
  (.mk (some 17) none (.pure (.ext 1 (.t 10)))), 
  (.mk (some 6) none (.pure (.mv (.t 16)))), 
  (.mk (some 7) none (.pure (.mv (.t 17))))]) (.seq (.ops [
  (.mk (some 18) none (.pure (.mv (.t 6)))), 
  (.mk (some 19) none (.pure (.conv .u64 (.t 18)))), 
  (.mk (some 20) none (.pure (.mv (.t 7)))), 
  (.mk (some 21) none (.pure (.conv .u64 (.t 20)))), 
  (.mk (some 4) none (.pure (.mv (.t 19)))), 
  (.mk (some 5) none (.pure (.mv (.t 21))))]) .ret)) .skip) (.seq (.ops [
  (.mk (some 23) none (.pure (.mv (.t 0)))), 
  (.mk (some 24) none (.pure (.mv (.t 1)))), 
  (.mk (some 25) none (.call 86 [(.t 23), (.t 24)])), 
  (.mk (some 22) none (.pure (.mv (.t 25)))), 
  (.mk (some 26) none (.pure (.ext 0 (.t 22)))), 
  (.mk (some 27) none (.pure (.ext 1 (.t 22)))), 
  (.mk (some 8) none (.pure (.mv (.t 26)))), 
  (.mk (some 9) none (.pure (.mv (.t 27))))]) (.seq (.ops [
  (.mk (some 28) none (.pure (.mv (.t 8)))), 
  (.mk (some 29) none (.pure (.mv (.t 9)))), 
  (.mk (some 4) none (.pure (.mv (.t 28)))), 
  (.mk (some 5) none (.pure (.mv (.t 29))))]) .ret)))))
def fn80 : AFn := (AFn.mk 18 [(.t 4)] (.seq (.ops [
  (.mk (some 4) none (.pure (.mv (.c (.b false)))))]) (.seq (.ops [
  (.mk (some 5) none (.pure (.mv (.t 0)))), 
  (.mk (some 6) none (.pure (.len true (.t 5)))), 
  (.mk (some 7) none (.pure (.mv (.t 1)))), 
  (.mk (some 8) none (.pure (.len true (.t 7)))), 
  (.mk (some 9) none (.pure (.bin .geq (.t 6) (.t 8)))), 
  (.mk (some 10) none (.pure (.mv (.t 9)))), 
  (.mk (some 11) (some (10, true)) (.pure (.mv (.t 0)))), 
  (.mk (some 12) (some (10, true)) (.pure (.mv (.t 1)))), 
  (.mk (some 13) (some (10, true)) (.pure (.len true (.t 12)))), 
  (.mk (some 14) (some (10, true)) (.pure (.slStr (.t 11) none (some (.t 13))))), 
  (.mk (some 15) (some (10, true)) (.pure (.mv (.t 1)))), 
  (.mk (some 16) (some (10, true)) (.pure (.sbin .eql (.t 14) (.t 15)))), 
  (.mk (some 17) none (.pure (.pick (.t 10) (.t 16) (.c (.b false))))), 
  (.mk (some 4) none (.pure (.mv (.t 17))))]) .ret)))
def fn85 : AFn := (AFn.mk 17 [(.t 4), (.t 5)] (.seq (.ops [
  (.mk (some 4) none (.pure (.mv (.c (.i .u32 0))))), 
  (.mk (some 5) none (.pure (.mv (.c (.i .u32 0)))))]) (.seq (.ops [
  (.mk (some 7) none (.pure (.mv (.t 0)))), 
  (.mk (some 8) none (.pure (.conv .u64 (.t 7)))), 
  (.mk (some 9) none (.pure (.mv (.t 1)))), 
  (.mk (some 10) none (.pure (.conv .u64 (.t 9)))), 
  (.mk (some 11) none (.pure (.bin .mul (.t 8) (.t 10)))), 
  (.mk (some 6) none (.pure (.mv (.t 11))))]) (.seq (.ops [
  (.mk (some 12) none (.pure (.mv (.t 6)))), 
  (.mk (some 13) none (.pure (.bin .shr (.t 12) (.c (.i .u64 32))))), 
  (.mk (some 14) none (.pure (.conv .u32 (.t 13)))), 
  (.mk (some 15) none (.pure (.mv (.t 6)))), 
  (.mk (some 16) none (.pure (.conv .u32 (.t 15)))), 
  (.mk (some 4) none (.pure (.mv (.t 14)))), 
  (.mk (some 5) none (.pure (.mv (.t 16))))]) .ret))))
def fn86 : AFn := (AFn.mk 51 [(.t 4), (.t 5)] (.seq (.ops [
  (.mk (some 4) none (.pure (.mv (.c (.i .u64 0))))), 
  (.mk (some 5) none (.pure (.mv (.c (.i .u64 0)))))]) (.seq (.ops [
  (.mk (some 14) none (.pure (.mv (.t 0)))), 
  (.mk (some 15) none (.pure (.bin .and (.t 14) (.c (.i .u64 4294967295))))), 
  (.mk (some 6) none (.pure (.mv (.t 15))))]) (.seq (.ops [
  (.mk (some 16) none (.pure (.mv (.t 0)))), 
  (.mk (some 17) none (.pure (.bin .shr (.t 16) (.c (.i .u64 32))))), 
  (.mk (some 7) none (.pure (.mv (.t 17))))]) (.seq (.ops [
  (.mk (some 18) none (.pure (.mv (.t 1)))), 
  (.mk (some 19) none (.pure (.bin .and (.t 18) (.c (.i .u64 4294967295))))), 
  (.mk (some 8) none (.pure (.mv (.t 19))))]) (.seq (.ops [
  (.mk (some 20) none (.pure (.mv (.t 1)))), 
  (.mk (some 21) none (.pure (.bin .shr (.t 20) (.c (.i .u64 32))))), 
  (.mk (some 9) none (.pure (.mv (.t 21))))]) (.seq (.ops [
  (.mk (some 22) none (.pure (.mv (.t 6)))), 
  (.mk (some 23) none (.pure (.mv (.t 8)))), 
  (.mk (some 24) none (.pure (.bin .mul (.t 22) (.t 23)))), 
  (.mk (some 10) none (.pure (.mv (.t 24))))]) (.seq (.ops [
  (.mk (some 25) none (.pure (.mv (.t 7)))), 
  (.mk (some 26) none (.pure (.mv (.t 8)))), 
  (.mk (some 27) none (.pure (.bin .mul (.t 25) (.t 26)))), 
  (.mk (some 28) none (.pure (.mv (.t 10)))), 
  (.mk (some 29) none (.pure (.bin .shr (.t 28) (.c (.i .u64 32))))), 
  (.mk (some 30) none (.pure (.bin .add (.t 27) (.t 29)))), 
  (.mk (some 11) none (.pure (.mv (.t 30))))]) (.seq (.ops [
  (.mk (some 31) none (.pure (.mv (.t 11)))), 
  (.mk (some 32) none (.pure (.bin .and (.t 31) (.c (.i .u64 4294967295))))), 
  (.mk (some 12) none (.pure (.mv (.t 32))))]) (.seq (.ops [
  (.mk (some 33) none (.pure (.mv (.t 11)))), 
  (.mk (some 34) none (.pure (.bin .shr (.t 33) (.c (.i .u64 32))))), 
  (.mk (some 13) none (.pure (.mv (.t 34))))]) (.seq (.ops [
  (.mk (some 35) none (.pure (.mv (.t 12)))), 
  (.mk (some 36) none (.pure (.mv (.t 6)))), 
  (.mk (some 37) none (.pure (.mv (.t 9)))), 
  (.mk (some 38) none (.pure (.bin .mul (.t 36) (.t 37)))), 
  (.mk (some 39) none (.pure (.bin .add (.t 35) (.t 38)))), 
  (.mk (some 12) none (.pure (.mv (.t 39))))]) (.seq (.ops [
  (.mk (some 40) none (.pure (.mv (.t 7)))), 
  (.mk (some 41) none (.pure (.mv (.t 9)))), 
  (.mk (some 42) none (.pure (.bin .mul (.t 40) (.t 41)))), 
  (.mk (some 43) none (.pure (.mv (.t 13)))), 
  (.mk (some 44) none (.pure (.bin .add (.t 42) (.t 43)))), 
  (.mk (some 45) none (.pure (.mv (.t 12)))), 
  (.mk (some 46) none (.pure (.bin .shr (.t 45) (.c (.i .u64 32))))), 
  (.mk (some 47) none (.pure (.bin .add (.t 44) (.t 46)))), 
  (.mk (some 4) none (.pure (.mv (.t 47))))]) (.seq (.ops [
  (.mk (some 48) none (.pure (.mv (.t 0)))), 
  (.mk (some 49) none (.pure (.mv (.t 1)))), 
  (.mk (some 50) none (.pure (.bin .mul (.t 48) (.t 49)))), 
  (.mk (some 5) none (.pure (.mv (.t 50))))]) .ret)))))))))))))
def F (f : Nat) : Option AFn := cond (Nat.blt f 59) (cond (Nat.blt f 37) (cond (Nat.blt f 21) (cond (Nat.blt f 18) (cond (Nat.beq f 11) (some fn11) none) (cond (Nat.blt f 19) (cond (Nat.beq f 18) (some fn18) none) (cond (Nat.beq f 19) (some fn19) none))) (cond (Nat.blt f 25) (cond (Nat.blt f 23) (cond (Nat.beq f 21) (some fn21) none) (cond (Nat.beq f 23) (some fn23) none)) (cond (Nat.blt f 29) (cond (Nat.beq f 25) (some fn25) none) (cond (Nat.beq f 29) (some fn29) none)))) (cond (Nat.blt f 52) (cond (Nat.blt f 39) (cond (Nat.beq f 37) (some fn37) none) (cond (Nat.blt f 51) (cond (Nat.beq f 39) (some fn39) none) (cond (Nat.beq f 51) (some fn51) none))) (cond (Nat.blt f 56) (cond (Nat.blt f 55) (cond (Nat.beq f 52) (some fn52) none) (cond (Nat.beq f 55) (some fn55) none)) (cond (Nat.blt f 58) (cond (Nat.beq f 56) (some fn56) none) (cond (Nat.beq f 58) (some fn58) none))))) (cond (Nat.blt f 73) (cond (Nat.blt f 66) (cond (Nat.blt f 60) (cond (Nat.beq f 59) (some fn59) none) (cond (Nat.blt f 63) (cond (Nat.beq f 60) (some fn60) none) (cond (Nat.beq f 63) (some fn63) none))) (cond (Nat.blt f 71) (cond (Nat.blt f 68) (cond (Nat.beq f 66) (some fn66) none) (cond (Nat.beq f 68) (some fn68) none)) (cond (Nat.blt f 72) (cond (Nat.beq f 71) (some fn71) none) (cond (Nat.beq f 72) (some fn72) none)))) (cond (Nat.blt f 78) (cond (Nat.blt f 74) (cond (Nat.beq f 73) (some fn73) none) (cond (Nat.blt f 75) (cond (Nat.beq f 74) (some fn74) none) (cond (Nat.beq f 75) (some fn75) none))) (cond (Nat.blt f 85) (cond (Nat.blt f 80) (cond (Nat.beq f 78) (some fn78) none) (cond (Nat.beq f 80) (some fn80) none)) (cond (Nat.blt f 86) (cond (Nat.beq f 85) (some fn85) none) (cond (Nat.beq f 86) (some fn86) none)))))
end Go.Proofs.Ytobmcofkcfifkaa.T
