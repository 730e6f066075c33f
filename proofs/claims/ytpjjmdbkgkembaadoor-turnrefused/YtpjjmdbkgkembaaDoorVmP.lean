/- The functions that the law reaches, as the small machine takes them. -/
import Derived.Test.YtpjjmdbkgkembaaDoorVmA
import Derived.KernelRfl
open Go.Vm
namespace Go.Proofs.YtpjjmdbkgkembaaDoor.T
open Go
def fn9 : AFn := (AFn.mk 174 [(.t 8)] (.seq (.ops [
  (.mk (some 8) none (.pure (.mv (.c (.b false)))))]) (.seq (.seq (.ops [
  (.mk (some 19) none (.pure (.mv (.t 2)))), 
  (.mk (some 20) none (.pure (.mv (.t 3)))), 
  (.mk (some 21) none (.call 15 [(.t 19), (.t 20), (.c .nsl)])), 
  (.mk (some 22) none (.pure (.not (.t 21))))]) (.cond (.t 22) (.seq (.ops [
  (.mk (some 23) none (.call 16 [])), 
  (.mk (some 8) none (.pure (.mv (.t 23))))]) .ret) .skip)) (.seq (.ops [
  (.mk (some 25) none (.pure (.mv (.t 0)))), 
  (.mk (some 26) none (.pure (.mv (.t 1)))), 
  (.mk (some 27) none (.pure (.mv (.t 2)))), 
  (.mk (some 28) none (.call 17 [(.t 25), (.t 26), (.t 27)])), 
  (.mk (some 24) none (.pure (.mv (.t 28)))), 
  (.mk (some 29) none (.pure (.ext 0 (.t 24)))), 
  (.mk (some 30) none (.pure (.ext 1 (.t 24)))), 
  (.mk (some 9) none (.pure (.mv (.t 29)))), 
  (.mk (some 10) none (.pure (.mv (.t 30))))]) (.seq (.ops [
  (.mk (some 32) none (.pure (.mv (.t 0)))), 
  (.mk (some 33) none (.pure (.mv (.t 1)))), 
  (.mk (some 34) none (.pure (.mv (.t 2)))), 
  (.mk (some 35) none (.pure (.mv (.t 3)))), 
  (.mk (some 36) none (.call 30 [(.t 32), (.t 33), (.t 34), (.t 35)])), 
  (.mk (some 31) none (.pure (.mv (.t 36)))), 
  (.mk (some 37) none (.pure (.ext 0 (.t 31)))), 
  (.mk (some 38) none (.pure (.ext 1 (.t 31)))), 
  (.mk (some 11) none (.pure (.mv (.t 37)))), 
  (.mk (some 12) none (.pure (.mv (.t 38))))]) (.seq (.ops [
  (.mk (some 40) none (.pure (.mv (.t 0)))), 
  (.mk (some 41) none (.pure (.mv (.t 1)))), 
  (.mk (some 42) none (.pure (.mv (.t 2)))), 
  (.mk (some 43) none (.call 36 [(.t 40), (.t 41), (.t 42)])), 
  (.mk (some 39) none (.pure (.mv (.t 43)))), 
  (.mk (some 44) none (.pure (.ext 0 (.t 39)))), 
  (.mk (some 45) none (.pure (.ext 1 (.t 39)))), 
  (.mk (some 13) none (.pure (.mv (.t 44)))), 
  (.mk (some 14) none (.pure (.mv (.t 45))))]) (.seq (.seq (.ops [
  (.mk (some 46) none (.pure (.mv (.t 12)))), 
  (.mk (some 47) none (.pure (.bin .neq (.t 46) (.c (.i .i64 0))))), 
  (.mk (some 48) none (.pure (.mv (.t 47)))), 
  (.mk (some 49) (some (48, false)) (.pure (.mv (.t 0)))), 
  (.mk (some 50) (some (48, false)) (.pure (.mv (.t 1)))), 
  (.mk (some 51) (some (48, false)) (.pure (.mv (.t 2)))), 
  (.mk (some 52) (some (48, false)) (.call 20 [(.t 49), (.t 50), (.t 51)])), 
  (.mk (some 53) (some (48, false)) (.pure (.bin .neq (.t 52) (.c (.i .i64 0))))), 
  (.mk (some 54) none (.pure (.pick (.t 48) (.c (.b true)) (.t 53))))]) (.cond (.t 54) (.seq (.ops [
  (.mk (some 55) none (.pure (.mv (.t 12)))), 
  (.mk (some 56) none (.pure (.mv (.t 0)))), 
  (.mk (some 57) none (.pure (.mv (.t 1)))), 
  (.mk (some 58) none (.pure (.mv (.t 2)))), 
  (.mk (some 59) none (.call 20 [(.t 56), (.t 57), (.t 58)])), 
  (.mk (some 60) none (.pure (.bin .eql (.t 55) (.t 59)))), 
  (.mk (some 61) none (.pure (.mv (.t 60)))), 
  (.mk (some 62) (some (61, true)) (.pure (.mv (.t 10)))), 
  (.mk (some 63) (some (61, true)) (.pure (.mv (.t 12)))), 
  (.mk (some 64) (some (61, true)) (.pure (.bin .eql (.t 62) (.t 63)))), 
  (.mk (some 65) none (.pure (.pick (.t 61) (.t 64) (.c (.b false))))), 
  (.mk (some 66) none (.pure (.mv (.t 65)))), 
  (.mk (some 67) (some (66, true)) (.pure (.mv (.t 14)))), 
  (.mk (some 68) (some (66, true)) (.pure (.mv (.t 12)))), 
  (.mk (some 69) (some (66, true)) (.pure (.bin .eql (.t 67) (.t 68)))), 
  (.mk (some 70) none (.pure (.pick (.t 66) (.t 69) (.c (.b false))))), 
  (.mk (some 71) none (.pure (.mv (.t 70)))), 
  (.mk (some 72) (some (71, true)) (.pure (.mv (.t 11)))), 
  (.mk (some 73) (some (71, true)) (.pure (.not (.t 72)))), 
  (.mk (some 74) none (.pure (.pick (.t 71) (.t 73) (.c (.b false))))), 
  (.mk (some 75) none (.pure (.mv (.t 74)))), 
  (.mk (some 76) (some (75, true)) (.pure (.mv (.t 9)))), 
  (.mk (some 77) (some (75, true)) (.pure (.len false (.t 76)))), 
  (.mk (some 78) (some (75, true)) (.pure (.mv (.t 13)))), 
  (.mk (some 79) (some (75, true)) (.pure (.bin .add (.t 77) (.t 78)))), 
  (.mk (some 80) (some (75, true)) (.pure (.bin .eql (.t 79) (.c (.i .i64 0))))), 
  (.mk (some 81) none (.pure (.pick (.t 75) (.t 80) (.c (.b false))))), 
  (.mk (some 82) none (.pure (.mv (.t 81)))), 
  (.mk (some 83) (some (82, true)) (.call 16 [])), 
  (.mk (some 84) none (.pure (.pick (.t 82) (.t 83) (.c (.b false))))), 
  (.mk (some 8) none (.pure (.mv (.t 84))))]) .ret) .skip)) (.seq (.seq (.ops [
  (.mk (some 85) none (.pure (.mv (.t 10)))), 
  (.mk (some 86) none (.pure (.bin .neq (.t 85) (.c (.i .i64 0))))), 
  (.mk (some 87) none (.pure (.mv (.t 86)))), 
  (.mk (some 88) (some (87, true)) (.pure (.mv (.t 10)))), 
  (.mk (some 89) (some (87, true)) (.pure (.bin .neq (.t 88) (.c (.i .i64 10))))), 
  (.mk (some 90) none (.pure (.pick (.t 87) (.t 89) (.c (.b false))))), 
  (.mk (some 91) none (.pure (.mv (.t 90)))), 
  (.mk (some 92) (some (91, false)) (.pure (.mv (.t 11)))), 
  (.mk (some 93) (some (91, false)) (.pure (.mv (.t 92)))), 
  (.mk (some 94) (some (93, true)) (.pure (.mv (.t 10)))), 
  (.mk (some 95) (some (93, true)) (.pure (.bin .eql (.t 94) (.c (.i .i64 0))))), 
  (.mk (some 96) (some (91, false)) (.pure (.pick (.t 93) (.t 95) (.c (.b false))))), 
  (.mk (some 97) none (.pure (.pick (.t 91) (.c (.b true)) (.t 96)))), 
  (.mk (some 98) none (.pure (.mv (.t 97)))), 
  (.mk (some 99) (some (98, false)) (.pure (.mv (.t 14)))), 
  (.mk (some 100) (some (98, false)) (.pure (.bin .neq (.t 99) (.c (.i .i64 0))))), 
  (.mk (some 101) none (.pure (.pick (.t 98) (.c (.b true)) (.t 100)))), 
  (.mk (some 102) none (.pure (.mv (.t 101)))), 
  (.mk (some 103) (some (102, false)) (.pure (.mv (.t 13)))), 
  (.mk (some 104) (some (102, false)) (.pure (.bin .lss (.t 103) (.c (.i .i64 0))))), 
  (.mk (some 105) none (.pure (.pick (.t 102) (.c (.b true)) (.t 104)))), 
  (.mk (some 106) none (.pure (.mv (.t 105)))), 
  (.mk (some 107) (some (106, false)) (.pure (.mv (.t 13)))), 
  (.mk (some 108) (some (106, false)) (.pure (.bin .eql (.t 107) (.c (.i .i64 0))))), 
  (.mk (some 109) (some (106, false)) (.pure (.mv (.t 108)))), 
  (.mk (some 110) (some (109, true)) (.pure (.mv (.t 10)))), 
  (.mk (some 111) (some (109, true)) (.pure (.bin .neq (.t 110) (.c (.i .i64 0))))), 
  (.mk (some 112) (some (106, false)) (.pure (.pick (.t 109) (.t 111) (.c (.b false))))), 
  (.mk (some 113) none (.pure (.pick (.t 106) (.c (.b true)) (.t 112))))]) (.cond (.t 113) (.seq (.ops [
  (.mk (some 8) none (.pure (.mv (.c (.b false)))))]) .ret) .skip)) (.seq (.seq (.ops [
  (.mk (some 114) none (.pure (.mv (.t 1)))), 
  (.mk (some 115) none (.pure (.bin .gtr (.t 114) (.c (.i .i64 4))))), 
  (.mk (some 116) none (.pure (.mv (.t 115)))), 
  (.mk (some 117) (some (116, true)) (.pure (.mv (.t 2)))), 
  (.mk (some 118) (some (116, true)) (.pure (.len false (.t 117)))), 
  (.mk (some 119) (some (116, true)) (.pure (.bin .gtr (.t 118) (.c (.i .i64 10))))), 
  (.mk (some 120) none (.pure (.pick (.t 116) (.t 119) (.c (.b false)))))]) (.cond (.t 120) (.seq (.ops [
  (.mk (some 121) none (.call 16 [])), 
  (.mk (some 8) none (.pure (.mv (.t 121))))]) .ret) .skip)) (.seq (.ops [
  (.mk (some 123) none (.pure (.mv (.t 0)))), 
  (.mk (some 124) none (.pure (.mv (.t 1)))), 
  (.mk (some 125) none (.pure (.mv (.t 2)))), 
  (.mk (some 126) none (.call 32 [(.t 123), (.t 124), (.t 125)])), 
  (.mk (some 122) none (.pure (.mv (.t 126)))), 
  (.mk (some 127) none (.pure (.ext 0 (.t 122)))), 
  (.mk (some 128) none (.pure (.ext 1 (.t 122)))), 
  (.mk (some 15) none (.pure (.mv (.t 127)))), 
  (.mk (some 16) none (.pure (.mv (.t 128))))]) (.seq (.seq (.ops [
  (.mk (some 129) none (.pure (.mv (.t 16)))), 
  (.mk (some 130) none (.pure (.bin .eql (.t 129) (.c (.i .i64 0)))))]) (.cond (.t 130) (.seq (.ops [
  (.mk (some 132) none (.pure (.mv (.t 0)))), 
  (.mk (some 133) none (.pure (.mv (.t 1)))), 
  (.mk (some 134) none (.pure (.mv (.t 2)))), 
  (.mk (some 135) none (.pure (.mv (.t 15)))), 
  (.mk (some 136) none (.call 30 [(.t 132), (.t 133), (.t 134), (.t 135)])), 
  (.mk (some 131) none (.pure (.mv (.t 136)))), 
  (.mk (some 137) none (.pure (.ext 0 (.t 131)))), 
  (.mk (some 138) none (.pure (.ext 1 (.t 131)))), 
  (.mk (some 17) none (.pure (.mv (.t 137)))), 
  (.mk (some 18) none (.pure (.mv (.t 138))))]) (.seq (.ops [
  (.mk (some 139) none (.pure (.mv (.t 18)))), 
  (.mk (some 140) none (.pure (.bin .eql (.t 139) (.c (.i .i64 0))))), 
  (.mk (some 141) none (.pure (.mv (.t 140)))), 
  (.mk (some 142) (some (141, true)) (.pure (.mv (.t 17)))), 
  (.mk (some 143) none (.pure (.pick (.t 141) (.t 142) (.c (.b false))))), 
  (.mk (some 144) none (.pure (.mv (.t 143)))), 
  (.mk (some 145) (some (144, true)) (.pure (.mv (.t 10)))), 
  (.mk (some 146) (some (144, true)) (.pure (.bin .eql (.t 145) (.c (.i .i64 10))))), 
  (.mk (some 147) none (.pure (.pick (.t 144) (.t 146) (.c (.b false))))), 
  (.mk (some 148) none (.pure (.mv (.t 147)))), 
  (.mk (some 149) (some (148, true)) (.call 16 [])), 
  (.mk (some 150) none (.pure (.pick (.t 148) (.t 149) (.c (.b false))))), 
  (.mk (some 8) none (.pure (.mv (.t 150))))]) .ret)) .skip)) (.seq (.ops [
  (.mk (some 151) none (.pure (.mv (.t 16)))), 
  (.mk (some 152) none (.pure (.bin .eql (.t 151) (.c (.i .i64 10))))), 
  (.mk (some 153) none (.pure (.mv (.t 152)))), 
  (.mk (some 154) (some (153, true)) (.pure (.mv (.t 11)))), 
  (.mk (some 155) (some (153, true)) (.pure (.not (.t 154)))), 
  (.mk (some 156) none (.pure (.pick (.t 153) (.t 155) (.c (.b false))))), 
  (.mk (some 157) none (.pure (.mv (.t 156)))), 
  (.mk (some 158) (some (157, true)) (.pure (.mv (.t 13)))), 
  (.mk (some 159) (some (157, true)) (.pure (.bin .neq (.t 158) (.c (.i .i64 1))))), 
  (.mk (some 160) (some (157, true)) (.pure (.mv (.t 159)))), 
  (.mk (some 161) (some (160, false)) (.pure (.mv (.t 1)))), 
  (.mk (some 162) (some (160, false)) (.pure (.mv (.t 2)))), 
  (.mk (some 163) (some (160, false)) (.call 38 [(.t 161), (.t 162)])), 
  (.mk (some 164) (some (160, false)) (.pure (.bin .gtr (.t 163) (.c (.i .i64 1))))), 
  (.mk (some 165) (some (157, true)) (.pure (.pick (.t 160) (.c (.b true)) (.t 164)))), 
  (.mk (some 166) (some (157, true)) (.pure (.mv (.t 165)))), 
  (.mk (some 167) (some (166, false)) (.pure (.mv (.t 10)))), 
  (.mk (some 168) (some (166, false)) (.pure (.bin .eql (.t 167) (.c (.i .i64 0))))), 
  (.mk (some 169) (some (157, true)) (.pure (.pick (.t 166) (.c (.b true)) (.t 168)))), 
  (.mk (some 170) none (.pure (.pick (.t 157) (.t 169) (.c (.b false))))), 
  (.mk (some 171) none (.pure (.mv (.t 170)))), 
  (.mk (some 172) (some (171, true)) (.call 16 [])), 
  (.mk (some 173) none (.pure (.pick (.t 171) (.t 172) (.c (.b false))))), 
  (.mk (some 8) none (.pure (.mv (.t 173))))]) .ret))))))))))))
def fn15 : AFn := (AFn.mk 20 [(.t 6)] (.seq (.ops [
  (.mk (some 6) none (.pure (.mv (.c (.b false)))))]) (.seq (.ops [
  (.mk (some 7) none (.pure (.mv (.t 0)))), 
  (.mk (some 8) none (.pure (.len false (.t 7)))), 
  (.mk (some 9) none (.pure (.bin .leq (.t 8) (.c (.i .i64 40))))), 
  (.mk (some 10) none (.pure (.mv (.t 9)))), 
  (.mk (some 11) (some (10, true)) (.pure (.mv (.t 1)))), 
  (.mk (some 12) (some (10, true)) (.pure (.len false (.t 11)))), 
  (.mk (some 13) (some (10, true)) (.pure (.bin .leq (.t 12) (.c (.i .i64 40))))), 
  (.mk (some 14) none (.pure (.pick (.t 10) (.t 13) (.c (.b false))))), 
  (.mk (some 15) none (.pure (.mv (.t 14)))), 
  (.mk (some 16) (some (15, true)) (.pure (.mv (.t 2)))), 
  (.mk (some 17) (some (15, true)) (.pure (.len false (.t 16)))), 
  (.mk (some 18) (some (15, true)) (.pure (.bin .leq (.t 17) (.c (.i .i64 40))))), 
  (.mk (some 19) none (.pure (.pick (.t 15) (.t 18) (.c (.b false))))), 
  (.mk (some 6) none (.pure (.mv (.t 19))))]) .ret)))
def fn16 : AFn := (AFn.mk 46 [(.t 0)] (.seq (.ops [
  (.mk (some 0) none (.pure (.mv (.c (.b false)))))]) (.seq (.ops [
  (.mk (some 8) none (.call 42 [(.c (.i .i64 3)), (.c (.i .i64 4))])), 
  (.mk (some 9) none (.call 17 [(.c (.i .i64 10)), (.c (.i .i64 3)), (.t 8)])), 
  (.mk (some 7) none (.pure (.mv (.t 9)))), 
  (.mk (some 10) none (.pure (.ext 0 (.t 7)))), 
  (.mk (some 11) none (.pure (.ext 1 (.t 7)))), 
  (.mk (some 1) none (.pure (.mv (.t 10)))), 
  (.mk (some 2) none (.pure (.mv (.t 11))))]) (.seq (.ops [
  (.mk (some 13) none (.call 42 [(.c (.i .i64 3)), (.c (.i .i64 4))])), 
  (.mk (some 14) none (.call 22 [(.c (.i .i64 10)), (.c (.i .i64 3)), (.t 13)])), 
  (.mk (some 12) none (.pure (.mv (.t 14)))), 
  (.mk (some 15) none (.pure (.ext 0 (.t 12)))), 
  (.mk (some 16) none (.pure (.ext 1 (.t 12)))), 
  (.mk (some 3) none (.pure (.mv (.t 15)))), 
  (.mk (some 4) none (.pure (.mv (.t 16))))]) (.seq (.ops [
  (.mk (some 18) none (.call 42 [(.c (.i .i64 3)), (.c (.i .i64 3))])), 
  (.mk (some 19) none (.call 32 [(.c (.i .i64 10)), (.c (.i .i64 3)), (.t 18)])), 
  (.mk (some 17) none (.pure (.mv (.t 19)))), 
  (.mk (some 20) none (.pure (.ext 0 (.t 17)))), 
  (.mk (some 21) none (.pure (.ext 1 (.t 17)))), 
  (.mk (some 5) none (.pure (.mv (.t 20)))), 
  (.mk (some 6) none (.pure (.mv (.t 21))))]) (.seq (.ops [
  (.mk (some 22) none (.pure (.mv (.t 2)))), 
  (.mk (some 23) none (.pure (.bin .eql (.t 22) (.c (.i .i64 0))))), 
  (.mk (some 24) none (.pure (.mv (.t 23)))), 
  (.mk (some 25) (some (24, true)) (.pure (.mv (.t 1)))), 
  (.mk (some 26) (some (24, true)) (.bsl 3 1 [(.i .i64 0)] 3 [((0, 1), (.c (.i .i64 0))), ((1, 1), (.c (.i .i64 3))), ((2, 1), (.c (.i .i64 6)))])), 
  (.mk (some 27) (some (24, true)) (.call 19 [(.t 25), (.t 26)])), 
  (.mk (some 28) none (.pure (.pick (.t 24) (.t 27) (.c (.b false))))), 
  (.mk (some 29) none (.pure (.mv (.t 28)))), 
  (.mk (some 30) (some (29, true)) (.pure (.mv (.t 4)))), 
  (.mk (some 31) (some (29, true)) (.pure (.bin .eql (.t 30) (.c (.i .i64 0))))), 
  (.mk (some 32) none (.pure (.pick (.t 29) (.t 31) (.c (.b false))))), 
  (.mk (some 33) none (.pure (.mv (.t 32)))), 
  (.mk (some 34) (some (33, true)) (.pure (.mv (.t 3)))), 
  (.mk (some 35) (some (33, true)) (.pure (.bin .eql (.t 34) (.c (.i .i64 3))))), 
  (.mk (some 36) none (.pure (.pick (.t 33) (.t 35) (.c (.b false))))), 
  (.mk (some 37) none (.pure (.mv (.t 36)))), 
  (.mk (some 38) (some (37, true)) (.pure (.mv (.t 6)))), 
  (.mk (some 39) (some (37, true)) (.pure (.bin .eql (.t 38) (.c (.i .i64 0))))), 
  (.mk (some 40) none (.pure (.pick (.t 37) (.t 39) (.c (.b false))))), 
  (.mk (some 41) none (.pure (.mv (.t 40)))), 
  (.mk (some 42) (some (41, true)) (.pure (.mv (.t 5)))), 
  (.mk (some 43) (some (41, true)) (.bsl 3 1 [(.i .i64 0)] 3 [((0, 1), (.c (.i .i64 1))), ((1, 1), (.c (.i .i64 2))), ((2, 1), (.c (.i .i64 3)))])), 
  (.mk (some 44) (some (41, true)) (.call 19 [(.t 42), (.t 43)])), 
  (.mk (some 45) none (.pure (.pick (.t 41) (.t 44) (.c (.b false))))), 
  (.mk (some 0) none (.pure (.mv (.t 45))))]) .ret))))))
def fn17 : AFn := (AFn.mk 25 [(.c 6 true 1), (.c 7 true 1)] (.seq (.ops [
  (.mk (some 6) none (.al 25 [.nsl])), 
  (.mk (some 7) none (.al 26 [(.i .i64 0)]))]) (.seq (.ops [
  (.mk (some 12) none (.pure (.mv (.t 0)))), 
  (.mk (some 13) none (.pure (.mv (.t 1)))), 
  (.mk (some 14) none (.pure (.mv (.t 2)))), 
  (.mk (some 15) none (.call 43 [(.t 12), (.t 13), (.t 14)])), 
  (.mk (some 11) none (.pure (.mv (.t 15)))), 
  (.mk (some 16) none (.pure (.ext 0 (.t 11)))), 
  (.mk (some 17) none (.pure (.ext 1 (.t 11)))), 
  (.mk (some 8) none (.al 55 [(.i .i64 0), (.i .i64 0), .nsl])), 
  (.mk none none (.st 3 (.t 8) (.t 16))), 
  (.mk (some 9) none (.pure (.mv (.t 17))))]) (.seq (.seq (.ops [
  (.mk (some 18) none (.pure (.mv (.t 9)))), 
  (.mk (some 19) none (.pure (.bin .neq (.t 18) (.c (.i .i64 0)))))]) (.cond (.t 19) (.seq (.ops [
  (.mk (some 20) none (.pure (.mv (.t 9)))), 
  (.mk none none (.st 1 (.t 6) (.c .nsl))), 
  (.mk none none (.st 1 (.t 7) (.t 20)))]) .ret) .skip)) (.seq (.seq (.ops [
  (.mk (some 21) none (.ld false 3 (.t 8))), 
  (.mk (some 22) none (.call 44 [(.t 21)]))]) (.block 0 (.rng (.t 22) [23] (.ops [
  (.mk (some 10) none (.pure (.mv (.t 23))))]) (.block 1 (.seq (.ops [
  (.mk (some 24) none (.pure (.mv (.t 10)))), 
  (.mk none none (.st 1 (.t 6) (.t 24))), 
  (.mk none none (.st 1 (.t 7) (.c (.i .i64 0))))]) .ret))))) (.seq (.ops [
  (.mk none none (.st 1 (.t 6) (.c .nsl))), 
  (.mk none none (.st 1 (.t 7) (.c (.i .i64 10))))]) .ret))))))
def fn19 : AFn := (AFn.mk 26 [(.t 4)] (.seq (.ops [
  (.mk (some 4) none (.pure (.mv (.c (.b false)))))]) (.seq (.seq (.ops [
  (.mk (some 6) none (.pure (.mv (.t 0)))), 
  (.mk (some 7) none (.pure (.len false (.t 6)))), 
  (.mk (some 8) none (.pure (.mv (.t 1)))), 
  (.mk (some 9) none (.pure (.len false (.t 8)))), 
  (.mk (some 10) none (.pure (.bin .neq (.t 7) (.t 9))))]) (.cond (.t 10) (.seq (.ops [
  (.mk (some 4) none (.pure (.mv (.c (.b false)))))]) .ret) .skip)) (.seq (.seq (.ops [
  (.mk (some 5) none (.pure (.mv (.c (.i .i64 0)))))]) (.block 0 (.loop (.seq (.seq (.ops [
  (.mk (some 11) none (.pure (.mv (.t 5)))), 
  (.mk (some 12) none (.pure (.mv (.t 0)))), 
  (.mk (some 13) none (.pure (.len false (.t 12)))), 
  (.mk (some 14) none (.pure (.bin .lss (.t 11) (.t 13))))]) (.cond (.t 14) .skip (.exit 0))) (.seq (.block 1 (.seq (.any [(
  (.mk (some 17) none (.pure (.mv (.t 0)))), false), (
  (.mk (some 18) none (.pure (.mv (.t 5)))), false), (
  (.mk (some 19) none (.pure (.ixS 1 (.t 17) (.t 18)))), false), (
  (.mk (some 20) none (.ld true 1 (.t 19))), false), (
  (.mk (some 21) none (.pure (.mv (.t 1)))), false), (
  (.mk (some 22) none (.pure (.mv (.t 5)))), false), (
  (.mk (some 23) none (.pure (.ixS 1 (.t 21) (.t 22)))), false), (
  (.mk (some 24) none (.ld true 1 (.t 23))), false), (
  (.mk (some 25) none (.pure (.bin .neq (.t 20) (.t 24)))), false)]) (.cond (.t 25) (.seq (.ops [
  (.mk (some 4) none (.pure (.mv (.c (.b false)))))]) .ret) .skip))) (.ops [
  (.mk (some 15) none (.pure (.mv (.t 5)))), 
  (.mk (some 16) none (.pure (.bin .add (.t 15) (.c (.i .i64 1))))), 
  (.mk (some 5) none (.pure (.mv (.t 16))))])))))) (.seq (.ops [
  (.mk (some 4) none (.pure (.mv (.c (.b true)))))]) .ret)))))
def fn20 : AFn := (AFn.mk 90 [(.t 6)] (.seq (.ops [
  (.mk (some 6) none (.pure (.mv (.c (.i .i64 0)))))]) (.seq (.seq (.ops [
  (.mk (some 9) none (.pure (.mv (.t 0)))), 
  (.mk (some 10) none (.pure (.bin .lss (.t 9) (.c (.i .i64 1))))), 
  (.mk (some 11) none (.pure (.mv (.t 10)))), 
  (.mk (some 12) (some (11, false)) (.pure (.mv (.t 0)))), 
  (.mk (some 13) (some (11, false)) (.pure (.bin .gtr (.t 12) (.c (.i .i64 24))))), 
  (.mk (some 14) none (.pure (.pick (.t 11) (.c (.b true)) (.t 13)))), 
  (.mk (some 15) none (.pure (.mv (.t 14)))), 
  (.mk (some 16) (some (15, false)) (.pure (.mv (.t 1)))), 
  (.mk (some 17) (some (15, false)) (.pure (.bin .lss (.t 16) (.c (.i .i64 1))))), 
  (.mk (some 18) none (.pure (.pick (.t 15) (.c (.b true)) (.t 17)))), 
  (.mk (some 19) none (.pure (.mv (.t 18)))), 
  (.mk (some 20) (some (19, false)) (.pure (.mv (.t 1)))), 
  (.mk (some 21) (some (19, false)) (.pure (.bin .gtr (.t 20) (.c (.i .i64 6))))), 
  (.mk (some 22) none (.pure (.pick (.t 19) (.c (.b true)) (.t 21))))]) (.cond (.t 22) (.seq (.ops [
  (.mk (some 6) none (.pure (.mv (.c (.i .i64 2)))))]) .ret) .skip)) (.seq (.seq (.ops [
  (.mk (some 23) none (.pure (.mv (.t 2)))), 
  (.mk (some 24) none (.pure (.len false (.t 23)))), 
  (.mk (some 25) none (.pure (.bin .gtr (.t 24) (.c (.i .i64 20)))))]) (.cond (.t 25) (.seq (.ops [
  (.mk (some 6) none (.pure (.mv (.c (.i .i64 3)))))]) .ret) .skip)) (.seq (.seq (.ops [
  (.mk (some 7) none (.pure (.mv (.c (.i .i64 0)))))]) (.block 0 (.loop (.seq (.seq (.ops [
  (.mk (some 26) none (.pure (.mv (.t 7)))), 
  (.mk (some 27) none (.pure (.mv (.t 2)))), 
  (.mk (some 28) none (.pure (.len false (.t 27)))), 
  (.mk (some 29) none (.pure (.bin .lss (.t 26) (.t 28))))]) (.cond (.t 29) .skip (.exit 0))) (.seq (.block 1 (.seq (.ops [
  (.mk (some 32) none (.pure (.mv (.t 2)))), 
  (.mk (some 33) none (.pure (.mv (.t 7)))), 
  (.mk (some 34) none (.pure (.ixS 4 (.t 32) (.t 33)))), 
  (.mk (some 35) none (.ld false 4 (.t 34))), 
  (.mk (some 8) none (.al 31 [(.i .i64 0), (.i .i64 0), (.i .i64 0), (.i .i64 0)])), 
  (.mk none none (.st 4 (.t 8) (.t 35)))]) (.seq (.ops [
  (.mk (some 36) none (.pure (.faddr 0 (.t 8)))), 
  (.mk (some 37) none (.ld true 1 (.t 36))), 
  (.mk (some 38) none (.pure (.bin .lss (.t 37) (.c (.i .i64 0))))), 
  (.mk (some 39) none (.pure (.mv (.t 38)))), 
  (.mk (some 40) (some (39, false)) (.pure (.faddr 0 (.t 8)))), 
  (.mk (some 41) (some (39, false)) (.ld true 1 (.t 40))), 
  (.mk (some 42) (some (39, false)) (.pure (.mv (.t 1)))), 
  (.mk (some 43) (some (39, false)) (.pure (.bin .geq (.t 41) (.t 42)))), 
  (.mk (some 44) none (.pure (.pick (.t 39) (.c (.b true)) (.t 43)))), 
  (.mk (some 45) none (.pure (.mv (.t 44)))), 
  (.mk (some 46) (some (45, false)) (.pure (.faddr 1 (.t 8)))), 
  (.mk (some 47) (some (45, false)) (.ld true 1 (.t 46))), 
  (.mk (some 48) (some (45, false)) (.pure (.bin .lss (.t 47) (.c (.i .i64 0))))), 
  (.mk (some 49) none (.pure (.pick (.t 45) (.c (.b true)) (.t 48)))), 
  (.mk (some 50) none (.pure (.mv (.t 49)))), 
  (.mk (some 51) (some (50, false)) (.pure (.faddr 1 (.t 8)))), 
  (.mk (some 52) (some (50, false)) (.ld true 1 (.t 51))), 
  (.mk (some 53) (some (50, false)) (.pure (.mv (.t 1)))), 
  (.mk (some 54) (some (50, false)) (.pure (.bin .geq (.t 52) (.t 53)))), 
  (.mk (some 55) none (.pure (.pick (.t 50) (.c (.b true)) (.t 54)))), 
  (.mk (some 56) none (.pure (.mv (.t 55)))), 
  (.mk (some 57) (some (56, false)) (.pure (.faddr 0 (.t 8)))), 
  (.mk (some 58) (some (56, false)) (.ld true 1 (.t 57))), 
  (.mk (some 59) (some (56, false)) (.pure (.faddr 1 (.t 8)))), 
  (.mk (some 60) (some (56, false)) (.ld true 1 (.t 59))), 
  (.mk (some 61) (some (56, false)) (.pure (.bin .eql (.t 58) (.t 60)))), 
  (.mk (some 62) none (.pure (.pick (.t 56) (.c (.b true)) (.t 61)))), 
  (.mk (some 63) none (.pure (.mv (.t 62)))), 
  (.mk (some 64) (some (63, false)) (.pure (.faddr 2 (.t 8)))), 
  (.mk (some 65) (some (63, false)) (.ld true 1 (.t 64))), 
  (.mk (some 66) (some (63, false)) (.pure (.bin .lss (.t 65) (.c (.i .i64 (-600)))))), 
  (.mk (some 67) none (.pure (.pick (.t 63) (.c (.b true)) (.t 66)))), 
  (.mk (some 68) none (.pure (.mv (.t 67)))), 
  (.mk (some 69) (some (68, false)) (.pure (.faddr 2 (.t 8)))), 
  (.mk (some 70) (some (68, false)) (.ld true 1 (.t 69))), 
  (.mk (some 71) (some (68, false)) (.pure (.bin .gtr (.t 70) (.c (.i .i64 600))))), 
  (.mk (some 72) none (.pure (.pick (.t 68) (.c (.b true)) (.t 71)))), 
  (.mk (some 73) none (.pure (.mv (.t 72)))), 
  (.mk (some 74) (some (73, false)) (.pure (.faddr 3 (.t 8)))), 
  (.mk (some 75) (some (73, false)) (.ld true 1 (.t 74))), 
  (.mk (some 76) (some (73, false)) (.pure (.faddr 2 (.t 8)))), 
  (.mk (some 77) (some (73, false)) (.ld true 1 (.t 76))), 
  (.mk (some 78) (some (73, false)) (.pure (.bin .lss (.t 75) (.t 77)))), 
  (.mk (some 79) none (.pure (.pick (.t 73) (.c (.b true)) (.t 78)))), 
  (.mk (some 80) none (.pure (.mv (.t 79)))), 
  (.mk (some 81) (some (80, false)) (.pure (.faddr 3 (.t 8)))), 
  (.mk (some 82) (some (80, false)) (.ld true 1 (.t 81))), 
  (.mk (some 83) (some (80, false)) (.pure (.faddr 2 (.t 8)))), 
  (.mk (some 84) (some (80, false)) (.ld true 1 (.t 83))), 
  (.mk (some 85) (some (80, false)) (.pure (.mv (.t 0)))), 
  (.mk (some 86) (some (80, false)) (.pure (.bin .add (.t 84) (.t 85)))), 
  (.mk (some 87) (some (80, false)) (.pure (.bin .sub (.t 86) (.c (.i .i64 1))))), 
  (.mk (some 88) (some (80, false)) (.pure (.bin .gtr (.t 82) (.t 87)))), 
  (.mk (some 89) none (.pure (.pick (.t 80) (.c (.b true)) (.t 88))))]) (.cond (.t 89) (.seq (.ops [
  (.mk (some 6) none (.pure (.mv (.c (.i .i64 2)))))]) .ret) .skip)))) (.ops [
  (.mk (some 30) none (.pure (.mv (.t 7)))), 
  (.mk (some 31) none (.pure (.bin .add (.t 30) (.c (.i .i64 1))))), 
  (.mk (some 7) none (.pure (.mv (.t 31))))])))))) (.seq (.ops [
  (.mk (some 6) none (.pure (.mv (.c (.i .i64 0)))))]) .ret))))))
def fn22 : AFn := (AFn.mk 29 [(.c 6 true 1), (.c 7 true 1)] (.seq (.ops [
  (.mk (some 6) none (.al 3 [(.i .i64 0)])), 
  (.mk (some 7) none (.al 26 [(.i .i64 0)]))]) (.seq (.ops [
  (.mk (some 12) none (.pure (.mv (.t 0)))), 
  (.mk (some 13) none (.pure (.mv (.t 1)))), 
  (.mk (some 14) none (.pure (.mv (.t 2)))), 
  (.mk (some 15) none (.call 43 [(.t 12), (.t 13), (.t 14)])), 
  (.mk (some 11) none (.pure (.mv (.t 15)))), 
  (.mk (some 16) none (.pure (.ext 0 (.t 11)))), 
  (.mk (some 17) none (.pure (.ext 1 (.t 11)))), 
  (.mk (some 8) none (.al 55 [(.i .i64 0), (.i .i64 0), .nsl])), 
  (.mk none none (.st 3 (.t 8) (.t 16))), 
  (.mk (some 9) none (.pure (.mv (.t 17))))]) (.seq (.seq (.ops [
  (.mk (some 18) none (.pure (.mv (.t 9)))), 
  (.mk (some 19) none (.pure (.bin .neq (.t 18) (.c (.i .i64 0)))))]) (.cond (.t 19) (.seq (.ops [
  (.mk (some 20) none (.pure (.mv (.t 9)))), 
  (.mk none none (.st 1 (.t 6) (.c (.i .i64 0)))), 
  (.mk none none (.st 1 (.t 7) (.t 20)))]) .ret) .skip)) (.seq (.ops [
  (.mk (some 10) none (.al 3 [(.i .i64 0)])), 
  (.mk none none (.st 1 (.t 10) (.c (.i .i64 0))))]) (.seq (.seq (.ops [
  (.mk (some 21) none (.ld false 3 (.t 8))), 
  (.mk (some 22) none (.call 44 [(.t 21)]))]) (.block 0 (.rng (.t 22) [23] .skip (.block 1 (.seq (.seq (.ops [
  (.mk (some 24) none (.ld true 1 (.t 10))), 
  (.mk (some 25) none (.pure (.bin .eql (.t 24) (.c (.i .i64 1000000)))))]) (.cond (.t 25) (.seq (.ops [
  (.mk none none (.st 1 (.t 6) (.c (.i .i64 0)))), 
  (.mk none none (.st 1 (.t 7) (.c (.i .i64 8))))]) .ret) .skip)) (.ops [
  (.mk (some 26) none (.ld true 1 (.t 10))), 
  (.mk (some 27) none (.pure (.bin .add (.t 26) (.c (.i .i64 1))))), 
  (.mk none none (.st 1 (.t 10) (.t 27)))])))))) (.seq (.ops [
  (.mk (some 28) none (.ld true 1 (.t 10))), 
  (.mk none none (.st 1 (.t 6) (.t 28))), 
  (.mk none none (.st 1 (.t 7) (.c (.i .i64 0))))]) .ret)))))))
def fn30 : AFn := (AFn.mk 56 [(.t 8), (.t 9)] (.seq (.ops [
  (.mk (some 8) none (.pure (.mv (.c (.b false))))), 
  (.mk (some 9) none (.pure (.mv (.c (.i .i64 0)))))]) (.seq (.ops [
  (.mk (some 19) none (.pure (.mv (.t 0)))), 
  (.mk (some 20) none (.pure (.mv (.t 1)))), 
  (.mk (some 21) none (.pure (.mv (.t 2)))), 
  (.mk (some 22) none (.call 43 [(.t 19), (.t 20), (.t 21)])), 
  (.mk (some 18) none (.pure (.mv (.t 22)))), 
  (.mk (some 23) none (.pure (.ext 0 (.t 18)))), 
  (.mk (some 24) none (.pure (.ext 1 (.t 18)))), 
  (.mk (some 10) none (.al 55 [(.i .i64 0), (.i .i64 0), .nsl])), 
  (.mk none none (.st 3 (.t 10) (.t 23))), 
  (.mk (some 11) none (.pure (.mv (.t 24))))]) (.seq (.seq (.ops [
  (.mk (some 25) none (.pure (.mv (.t 11)))), 
  (.mk (some 26) none (.pure (.bin .neq (.t 25) (.c (.i .i64 0)))))]) (.cond (.t 26) (.seq (.ops [
  (.mk (some 27) none (.pure (.mv (.t 11)))), 
  (.mk (some 8) none (.pure (.mv (.c (.b false))))), 
  (.mk (some 9) none (.pure (.mv (.t 27))))]) .ret) .skip)) (.seq (.ops [
  (.mk (some 12) none (.pure (.mv (.c (.i .i64 0))))), 
  (.mk (some 13) none (.pure (.mv (.c (.i .i64 0)))))]) (.seq (.ops [
  (.mk (some 29) none (.ld false 3 (.t 10))), 
  (.mk (some 30) none (.pure (.mv (.t 3)))), 
  (.mk (some 31) none (.call 54 [(.t 29), (.t 30)])), 
  (.mk (some 28) none (.pure (.mv (.t 31)))), 
  (.mk (some 32) none (.pure (.ext 0 (.t 28)))), 
  (.mk (some 33) none (.pure (.ext 1 (.t 28)))), 
  (.mk (some 14) none (.pure (.mv (.t 32)))), 
  (.mk (some 15) none (.pure (.mv (.t 33))))]) (.seq (.seq (.ops [
  (.mk (some 34) none (.pure (.mv (.t 14)))), 
  (.mk (some 35) none (.pure (.len false (.t 34)))), 
  (.mk (some 36) none (.pure (.mv (.c (.i .i64 0)))))]) (.block 0 (.loop (.seq (.ops [
  (.mk (some 37) none (.pure (.bin .lss (.t 36) (.t 35))))]) (.seq (.cond (.t 37) .skip (.exit 0)) (.seq (.block 1 (.seq (.ops [
  (.mk (some 38) none (.pure (.ixS 4 (.t 34) (.t 36)))), 
  (.mk (some 39) none (.ld false 4 (.t 38))), 
  (.mk (some 17) none (.al 31 [(.i .i64 0), (.i .i64 0), (.i .i64 0), (.i .i64 0)])), 
  (.mk none none (.st 4 (.t 17) (.t 39)))]) (.seq (.ops [
  (.mk (some 40) none (.pure (.mv (.t 12)))), 
  (.mk (some 41) none (.pure (.faddr 2 (.t 17)))), 
  (.mk (some 42) none (.ld true 1 (.t 41))), 
  (.mk (some 43) none (.pure (.bin .add (.t 40) (.t 42)))), 
  (.mk (some 12) none (.pure (.mv (.t 43))))]) (.ops [
  (.mk (some 44) none (.pure (.mv (.t 13)))), 
  (.mk (some 45) none (.pure (.faddr 3 (.t 17)))), 
  (.mk (some 46) none (.ld true 1 (.t 45))), 
  (.mk (some 47) none (.pure (.bin .add (.t 44) (.t 46)))), 
  (.mk (some 13) none (.pure (.mv (.t 47))))])))) (.ops [
  (.mk (some 48) none (.pure (.bin .add (.t 36) (.c (.i .i64 1))))), 
  (.mk (some 36) none (.pure (.mv (.t 48))))]))))))) (.seq (.ops [
  (.mk (some 49) none (.pure (.mv (.t 15)))), 
  (.mk (some 50) none (.pure (.mv (.t 49)))), 
  (.mk (some 51) (some (50, true)) (.ld false 3 (.t 10))), 
  (.mk (some 52) (some (50, true)) (.pure (.mv (.t 12)))), 
  (.mk (some 53) (some (50, true)) (.pure (.mv (.t 13)))), 
  (.mk (some 54) (some (50, true)) (.call 55 [(.t 51), (.t 52), (.t 53)])), 
  (.mk (some 55) none (.pure (.pick (.t 50) (.t 54) (.c (.b false))))), 
  (.mk (some 8) none (.pure (.mv (.t 55)))), 
  (.mk (some 9) none (.pure (.mv (.c (.i .i64 0)))))]) .ret))))))))
def fn32 : AFn := (AFn.mk 33 [(.t 6), (.t 7)] (.seq (.ops [
  (.mk (some 6) none (.pure (.mv (.c .nsl)))), 
  (.mk (some 7) none (.pure (.mv (.c (.i .i64 0)))))]) (.seq (.ops [
  (.mk (some 13) none (.pure (.mv (.t 0)))), 
  (.mk (some 14) none (.pure (.mv (.t 1)))), 
  (.mk (some 15) none (.pure (.mv (.t 2)))), 
  (.mk (some 16) none (.call 43 [(.t 13), (.t 14), (.t 15)])), 
  (.mk (some 12) none (.pure (.mv (.t 16)))), 
  (.mk (some 17) none (.pure (.ext 0 (.t 12)))), 
  (.mk (some 18) none (.pure (.ext 1 (.t 12)))), 
  (.mk (some 8) none (.al 55 [(.i .i64 0), (.i .i64 0), .nsl])), 
  (.mk none none (.st 3 (.t 8) (.t 17))), 
  (.mk (some 9) none (.pure (.mv (.t 18))))]) (.seq (.seq (.ops [
  (.mk (some 19) none (.pure (.mv (.t 9)))), 
  (.mk (some 20) none (.pure (.bin .neq (.t 19) (.c (.i .i64 0)))))]) (.cond (.t 20) (.seq (.ops [
  (.mk (some 21) none (.pure (.mv (.t 9)))), 
  (.mk (some 6) none (.pure (.mv (.c .nsl)))), 
  (.mk (some 7) none (.pure (.mv (.t 21))))]) .ret) .skip)) (.seq (.seq (.ops [
  (.mk (some 10) none (.pure (.mv (.c (.i .i64 2)))))]) (.block 0 (.loop (.seq (.seq (.ops [
  (.mk (some 22) none (.pure (.mv (.t 10)))), 
  (.mk (some 23) none (.pure (.mv (.t 1)))), 
  (.mk (some 24) none (.pure (.bin .leq (.t 22) (.t 23))))]) (.cond (.t 24) .skip (.exit 0))) (.seq (.block 1 (.seq (.ops [
  (.mk (some 27) none (.ld false 3 (.t 8))), 
  (.mk (some 28) none (.pure (.mv (.t 10)))), 
  (.mk (some 29) none (.call 57 [(.t 27), (.t 28)])), 
  (.mk (some 11) none (.pure (.mv (.t 29))))]) (.seq (.ops [
  (.mk (some 30) none (.pure (.mv (.t 11)))), 
  (.mk (some 31) none (.pure (.nilcmp true (.t 30))))]) (.cond (.t 31) (.seq (.ops [
  (.mk (some 32) none (.pure (.mv (.t 11)))), 
  (.mk (some 6) none (.pure (.mv (.t 32)))), 
  (.mk (some 7) none (.pure (.mv (.c (.i .i64 0)))))]) .ret) .skip)))) (.ops [
  (.mk (some 25) none (.pure (.mv (.t 10)))), 
  (.mk (some 26) none (.pure (.bin .add (.t 25) (.c (.i .i64 1))))), 
  (.mk (some 10) none (.pure (.mv (.t 26))))])))))) (.seq (.ops [
  (.mk (some 6) none (.pure (.mv (.c .nsl)))), 
  (.mk (some 7) none (.pure (.mv (.c (.i .i64 10)))))]) .ret))))))
def fn36 : AFn := (AFn.mk 80 [(.t 6), (.t 7)] (.seq (.ops [
  (.mk (some 6) none (.pure (.mv (.c (.i .i64 0))))), 
  (.mk (some 7) none (.pure (.mv (.c (.i .i64 0)))))]) (.seq (.ops [
  (.mk (some 19) none (.pure (.mv (.t 0)))), 
  (.mk (some 20) none (.pure (.mv (.t 1)))), 
  (.mk (some 21) none (.pure (.mv (.t 2)))), 
  (.mk (some 22) none (.call 43 [(.t 19), (.t 20), (.t 21)])), 
  (.mk (some 18) none (.pure (.mv (.t 22)))), 
  (.mk (some 23) none (.pure (.ext 0 (.t 18)))), 
  (.mk (some 24) none (.pure (.ext 1 (.t 18)))), 
  (.mk (some 8) none (.al 55 [(.i .i64 0), (.i .i64 0), .nsl])), 
  (.mk none none (.st 3 (.t 8) (.t 23))), 
  (.mk (some 9) none (.pure (.mv (.t 24))))]) (.seq (.seq (.ops [
  (.mk (some 25) none (.pure (.mv (.t 9)))), 
  (.mk (some 26) none (.pure (.bin .neq (.t 25) (.c (.i .i64 0)))))]) (.cond (.t 26) (.seq (.ops [
  (.mk (some 27) none (.pure (.mv (.t 9)))), 
  (.mk (some 6) none (.pure (.mv (.c (.i .i64 0))))), 
  (.mk (some 7) none (.pure (.mv (.t 27))))]) .ret) .skip)) (.seq (.ops [
  (.mk (some 28) none (.pure (.faddr 1 (.t 8)))), 
  (.mk (some 29) none (.ld true 1 (.t 28))), 
  (.mk (some 30) none (.mk 3 1 8 [(.i .i64 0)] (.t 29) (.t 29))), 
  (.mk (some 10) none (.pure (.mv (.t 30))))]) (.seq (.seq (.ops [
  (.mk (some 31) none (.pure (.mv (.t 10)))), 
  (.mk (some 32) none (.pure (.len false (.t 31)))), 
  (.mk (some 33) none (.pure (.mv (.c (.i .i64 0)))))]) (.block 0 (.loop (.seq (.ops [
  (.mk (some 34) none (.pure (.bin .lss (.t 33) (.t 32))))]) (.seq (.cond (.t 34) .skip (.exit 0)) (.seq (.block 1 (.seq (.ops [
  (.mk (some 35) none (.pure (.mv (.t 33)))), 
  (.mk (some 11) none (.pure (.mv (.t 35))))]) (.ops [
  (.mk (some 36) none (.pure (.mv (.t 10)))), 
  (.mk (some 37) none (.pure (.mv (.t 11)))), 
  (.mk (some 38) none (.pure (.mv (.t 11)))), 
  (.mk (some 39) none (.pure (.ixS 1 (.t 36) (.t 37)))), 
  (.mk none none (.st 1 (.t 39) (.t 38)))]))) (.ops [
  (.mk (some 40) none (.pure (.bin .add (.t 33) (.c (.i .i64 1))))), 
  (.mk (some 33) none (.pure (.mv (.t 40))))]))))))) (.seq (.ops [
  (.mk (some 12) none (.pure (.mv (.c (.i .i64 0)))))]) (.seq (.seq (.ops [
  (.mk (some 41) none (.pure (.mv (.t 2)))), 
  (.mk (some 42) none (.pure (.len false (.t 41)))), 
  (.mk (some 43) none (.pure (.mv (.c (.i .i64 0)))))]) (.block 2 (.loop (.seq (.ops [
  (.mk (some 44) none (.pure (.bin .lss (.t 43) (.t 42))))]) (.seq (.cond (.t 44) .skip (.exit 2)) (.seq (.block 3 (.seq (.ops [
  (.mk (some 45) none (.pure (.ixS 4 (.t 41) (.t 43)))), 
  (.mk (some 46) none (.ld false 4 (.t 45))), 
  (.mk (some 14) none (.al 31 [(.i .i64 0), (.i .i64 0), (.i .i64 0), (.i .i64 0)])), 
  (.mk none none (.st 4 (.t 14) (.t 46)))]) (.seq (.any [(
  (.mk (some 47) none (.pure (.mv (.t 10)))), false), (
  (.mk (some 48) none (.pure (.faddr 1 (.t 14)))), false), (
  (.mk (some 49) none (.ld true 1 (.t 48))), false), (
  (.mk (some 50) none (.pure (.ixS 1 (.t 47) (.t 49)))), false), (
  (.mk (some 51) none (.ld true 1 (.t 50))), false), (
  (.mk (some 52) none (.pure (.mv (.t 10)))), false), (
  (.mk (some 53) none (.pure (.faddr 0 (.t 14)))), false), (
  (.mk (some 54) none (.ld true 1 (.t 53))), false), (
  (.mk (some 55) none (.pure (.ixS 1 (.t 52) (.t 54)))), false), (
  (.mk (some 56) none (.ld true 1 (.t 55))), false), (
  (.mk (some 15) none (.pure (.mv (.t 51)))), false), (
  (.mk (some 16) none (.pure (.mv (.t 56)))), false)]) (.seq (.seq (.ops [
  (.mk (some 57) none (.pure (.mv (.t 15)))), 
  (.mk (some 58) none (.pure (.mv (.t 16)))), 
  (.mk (some 59) none (.pure (.bin .eql (.t 57) (.t 58))))]) (.cond (.t 59) (.ops [
  (.mk (some 60) none (.pure (.mv (.t 12)))), 
  (.mk (some 61) none (.pure (.bin .add (.t 60) (.c (.i .i64 1))))), 
  (.mk (some 12) none (.pure (.mv (.t 61))))]) .skip)) (.seq (.ops [
  (.mk (some 62) none (.pure (.mv (.t 10)))), 
  (.mk (some 63) none (.pure (.len false (.t 62)))), 
  (.mk (some 64) none (.pure (.mv (.c (.i .i64 0)))))]) (.block 4 (.loop (.seq (.ops [
  (.mk (some 65) none (.pure (.bin .lss (.t 64) (.t 63))))]) (.seq (.cond (.t 65) .skip (.exit 4)) (.seq (.block 5 (.seq (.ops [
  (.mk (some 66) none (.pure (.mv (.t 64)))), 
  (.mk (some 17) none (.pure (.mv (.t 66))))]) (.seq (.ops [
  (.mk (some 67) none (.pure (.mv (.t 10)))), 
  (.mk (some 68) none (.pure (.mv (.t 17)))), 
  (.mk (some 69) none (.pure (.ixS 1 (.t 67) (.t 68)))), 
  (.mk (some 70) none (.ld true 1 (.t 69))), 
  (.mk (some 71) none (.pure (.mv (.t 16)))), 
  (.mk (some 72) none (.pure (.bin .eql (.t 70) (.t 71))))]) (.cond (.t 72) (.ops [
  (.mk (some 73) none (.pure (.mv (.t 10)))), 
  (.mk (some 74) none (.pure (.mv (.t 17)))), 
  (.mk (some 75) none (.pure (.mv (.t 15)))), 
  (.mk (some 76) none (.pure (.ixS 1 (.t 73) (.t 74)))), 
  (.mk none none (.st 1 (.t 76) (.t 75)))]) .skip)))) (.ops [
  (.mk (some 77) none (.pure (.bin .add (.t 64) (.c (.i .i64 1))))), 
  (.mk (some 64) none (.pure (.mv (.t 77))))]))))))))))) (.ops [
  (.mk (some 78) none (.pure (.bin .add (.t 43) (.c (.i .i64 1))))), 
  (.mk (some 43) none (.pure (.mv (.t 78))))]))))))) (.seq (.ops [
  (.mk (some 79) none (.pure (.mv (.t 12)))), 
  (.mk (some 6) none (.pure (.mv (.t 79)))), 
  (.mk (some 7) none (.pure (.mv (.c (.i .i64 0)))))]) .ret)))))))))
def fn38 : AFn := (AFn.mk 67 [(.t 4)] (.seq (.ops [
  (.mk (some 4) none (.pure (.mv (.c (.i .i64 0)))))]) (.seq (.ops [
  (.mk (some 12) none (.pure (.mv (.t 0)))), 
  (.mk (some 13) none (.mk 3 1 8 [(.i .i64 0)] (.t 12) (.t 12))), 
  (.mk (some 5) none (.pure (.mv (.t 13))))]) (.seq (.seq (.ops [
  (.mk (some 6) none (.pure (.mv (.c (.i .i64 0)))))]) (.block 0 (.loop (.seq (.seq (.ops [
  (.mk (some 14) none (.pure (.mv (.t 6)))), 
  (.mk (some 15) none (.pure (.mv (.t 0)))), 
  (.mk (some 16) none (.pure (.bin .lss (.t 14) (.t 15))))]) (.cond (.t 16) .skip (.exit 0))) (.seq (.block 1 (.ops [
  (.mk (some 19) none (.pure (.mv (.t 5)))), 
  (.mk (some 20) none (.pure (.mv (.t 6)))), 
  (.mk (some 21) none (.pure (.mv (.t 6)))), 
  (.mk (some 22) none (.pure (.ixS 1 (.t 19) (.t 20)))), 
  (.mk none none (.st 1 (.t 22) (.t 21)))])) (.ops [
  (.mk (some 17) none (.pure (.mv (.t 6)))), 
  (.mk (some 18) none (.pure (.bin .add (.t 17) (.c (.i .i64 1))))), 
  (.mk (some 6) none (.pure (.mv (.t 18))))])))))) (.seq (.ops [
  (.mk (some 23) none (.pure (.mv (.t 0)))), 
  (.mk (some 7) none (.pure (.mv (.t 23))))]) (.seq (.seq (.ops [
  (.mk (some 8) none (.pure (.mv (.c (.i .i64 0)))))]) (.block 2 (.loop (.seq (.seq (.ops [
  (.mk (some 24) none (.pure (.mv (.t 8)))), 
  (.mk (some 25) none (.pure (.mv (.t 1)))), 
  (.mk (some 26) none (.pure (.len false (.t 25)))), 
  (.mk (some 27) none (.pure (.bin .lss (.t 24) (.t 26))))]) (.cond (.t 27) .skip (.exit 2))) (.seq (.block 3 (.seq (.any [(
  (.mk (some 30) none (.pure (.mv (.t 5)))), false), (
  (.mk (some 31) none (.pure (.mv (.t 1)))), false), (
  (.mk (some 32) none (.pure (.mv (.t 8)))), false), (
  (.mk (some 33) none (.pure (.ixS 4 (.t 31) (.t 32)))), false), (
  (.mk (some 34) none (.pure (.faddr 0 (.t 33)))), false), (
  (.mk (some 35) none (.ld true 1 (.t 34))), false), (
  (.mk (some 36) none (.pure (.ixS 1 (.t 30) (.t 35)))), false), (
  (.mk (some 37) none (.ld true 1 (.t 36))), false), (
  (.mk (some 38) none (.pure (.mv (.t 5)))), false), (
  (.mk (some 39) none (.pure (.mv (.t 1)))), false), (
  (.mk (some 40) none (.pure (.mv (.t 8)))), false), (
  (.mk (some 41) none (.pure (.ixS 4 (.t 39) (.t 40)))), false), (
  (.mk (some 42) none (.pure (.faddr 1 (.t 41)))), false), (
  (.mk (some 43) none (.ld true 1 (.t 42))), false), (
  (.mk (some 44) none (.pure (.ixS 1 (.t 38) (.t 43)))), false), (
  (.mk (some 45) none (.ld true 1 (.t 44))), false), (
  (.mk (some 9) none (.pure (.mv (.t 37)))), false), (
  (.mk (some 10) none (.pure (.mv (.t 45)))), false)]) (.seq (.seq (.ops [
  (.mk (some 46) none (.pure (.mv (.t 9)))), 
  (.mk (some 47) none (.pure (.mv (.t 10)))), 
  (.mk (some 48) none (.pure (.bin .eql (.t 46) (.t 47))))]) (.cond (.t 48) (.exit 3) .skip)) (.seq (.ops [
  (.mk (some 49) none (.pure (.mv (.t 7)))), 
  (.mk (some 50) none (.pure (.bin .sub (.t 49) (.c (.i .i64 1))))), 
  (.mk (some 7) none (.pure (.mv (.t 50))))]) (.seq (.ops [
  (.mk (some 11) none (.pure (.mv (.c (.i .i64 0)))))]) (.block 4 (.loop (.seq (.seq (.ops [
  (.mk (some 51) none (.pure (.mv (.t 11)))), 
  (.mk (some 52) none (.pure (.mv (.t 0)))), 
  (.mk (some 53) none (.pure (.bin .lss (.t 51) (.t 52))))]) (.cond (.t 53) .skip (.exit 4))) (.seq (.block 5 (.seq (.ops [
  (.mk (some 56) none (.pure (.mv (.t 5)))), 
  (.mk (some 57) none (.pure (.mv (.t 11)))), 
  (.mk (some 58) none (.pure (.ixS 1 (.t 56) (.t 57)))), 
  (.mk (some 59) none (.ld true 1 (.t 58))), 
  (.mk (some 60) none (.pure (.mv (.t 9)))), 
  (.mk (some 61) none (.pure (.bin .eql (.t 59) (.t 60))))]) (.cond (.t 61) (.ops [
  (.mk (some 62) none (.pure (.mv (.t 5)))), 
  (.mk (some 63) none (.pure (.mv (.t 11)))), 
  (.mk (some 64) none (.pure (.mv (.t 10)))), 
  (.mk (some 65) none (.pure (.ixS 1 (.t 62) (.t 63)))), 
  (.mk none none (.st 1 (.t 65) (.t 64)))]) .skip))) (.ops [
  (.mk (some 54) none (.pure (.mv (.t 11)))), 
  (.mk (some 55) none (.pure (.bin .add (.t 54) (.c (.i .i64 1))))), 
  (.mk (some 11) none (.pure (.mv (.t 55))))])))))))))) (.ops [
  (.mk (some 28) none (.pure (.mv (.t 8)))), 
  (.mk (some 29) none (.pure (.bin .add (.t 28) (.c (.i .i64 1))))), 
  (.mk (some 8) none (.pure (.mv (.t 29))))])))))) (.seq (.ops [
  (.mk (some 66) none (.pure (.mv (.t 7)))), 
  (.mk (some 4) none (.pure (.mv (.t 66))))]) .ret)))))))
def fn42 : AFn := (AFn.mk 15 [(.t 4)] (.seq (.ops [
  (.mk (some 4) none (.pure (.mv (.c .nsl))))]) (.seq (.ops [
  (.mk (some 5) none (.pure (.mv (.t 0)))), 
  (.mk (some 6) none (.pure (.mv (.t 1)))), 
  (.mk (some 7) none (.pure (.build [(.i .i64 0), (.i .i64 0), (.i .i64 0), (.i .i64 0)] [((0, 1), (.c (.i .i64 0))), ((1, 1), (.c (.i .i64 1))), ((2, 1), (.t 5)), ((3, 1), (.t 6))]))), 
  (.mk (some 8) none (.pure (.mv (.t 0)))), 
  (.mk (some 9) none (.pure (.mv (.t 1)))), 
  (.mk (some 10) none (.pure (.build [(.i .i64 0), (.i .i64 0), (.i .i64 0), (.i .i64 0)] [((0, 1), (.c (.i .i64 1))), ((1, 1), (.c (.i .i64 2))), ((2, 1), (.t 8)), ((3, 1), (.t 9))]))), 
  (.mk (some 11) none (.pure (.mv (.t 0)))), 
  (.mk (some 12) none (.pure (.mv (.t 1)))), 
  (.mk (some 13) none (.pure (.build [(.i .i64 0), (.i .i64 0), (.i .i64 0), (.i .i64 0)] [((0, 1), (.c (.i .i64 2))), ((1, 1), (.c (.i .i64 0))), ((2, 1), (.t 11)), ((3, 1), (.t 12))]))), 
  (.mk (some 14) none (.bsl 31 4 [(.i .i64 0), (.i .i64 0), (.i .i64 0), (.i .i64 0)] 3 [((0, 4), (.t 7)), ((4, 4), (.t 10)), ((8, 4), (.t 13))])), 
  (.mk (some 4) none (.pure (.mv (.t 14))))]) .ret)))
def fn43 : AFn := (AFn.mk 47 [(.c 6 false 3), (.t 7)] (.seq (.ops [
  (.mk (some 6) none (.al 55 [(.i .i64 0), (.i .i64 0), .nsl])), 
  (.mk (some 7) none (.pure (.mv (.c (.i .i64 0)))))]) (.seq (.seq (.ops [
  (.mk (some 11) none (.pure (.mv (.t 0)))), 
  (.mk (some 12) none (.pure (.bin .lss (.t 11) (.c (.i .i64 1))))), 
  (.mk (some 13) none (.pure (.mv (.t 12)))), 
  (.mk (some 14) (some (13, false)) (.pure (.mv (.t 0)))), 
  (.mk (some 15) (some (13, false)) (.pure (.bin .gtr (.t 14) (.c (.i .i64 24))))), 
  (.mk (some 16) none (.pure (.pick (.t 13) (.c (.b true)) (.t 15)))), 
  (.mk (some 17) none (.pure (.mv (.t 16)))), 
  (.mk (some 18) (some (17, false)) (.pure (.mv (.t 1)))), 
  (.mk (some 19) (some (17, false)) (.pure (.bin .lss (.t 18) (.c (.i .i64 1))))), 
  (.mk (some 20) none (.pure (.pick (.t 17) (.c (.b true)) (.t 19)))), 
  (.mk (some 21) none (.pure (.mv (.t 20)))), 
  (.mk (some 22) (some (21, false)) (.pure (.mv (.t 1)))), 
  (.mk (some 23) (some (21, false)) (.pure (.bin .gtr (.t 22) (.c (.i .i64 6))))), 
  (.mk (some 24) none (.pure (.pick (.t 21) (.c (.b true)) (.t 23))))]) (.cond (.t 24) (.seq (.ops [
  (.mk (some 25) none (.pure (.build [(.i .i64 0), (.i .i64 0), .nsl] []))), 
  (.mk none none (.st 3 (.t 6) (.t 25))), 
  (.mk (some 7) none (.pure (.mv (.c (.i .i64 2)))))]) .ret) .skip)) (.seq (.seq (.ops [
  (.mk (some 26) none (.pure (.mv (.t 2)))), 
  (.mk (some 27) none (.pure (.len false (.t 26)))), 
  (.mk (some 28) none (.pure (.bin .gtr (.t 27) (.c (.i .i64 20)))))]) (.cond (.t 28) (.seq (.ops [
  (.mk (some 29) none (.pure (.build [(.i .i64 0), (.i .i64 0), .nsl] []))), 
  (.mk none none (.st 3 (.t 6) (.t 29))), 
  (.mk (some 7) none (.pure (.mv (.c (.i .i64 3)))))]) .ret) .skip)) (.seq (.ops [
  (.mk (some 30) none (.pure (.mv (.t 0)))), 
  (.mk (some 31) none (.pure (.mv (.t 1)))), 
  (.mk (some 32) none (.pure (.mv (.t 2)))), 
  (.mk (some 33) none (.pure (.build [(.i .i64 0), (.i .i64 0), .nsl] [((0, 1), (.t 30)), ((1, 1), (.t 31)), ((2, 1), (.t 32))]))), 
  (.mk (some 8) none (.al 55 [(.i .i64 0), (.i .i64 0), .nsl])), 
  (.mk none none (.st 3 (.t 8) (.t 33)))]) (.seq (.seq (.ops [
  (.mk (some 34) none (.pure (.mv (.t 2)))), 
  (.mk (some 35) none (.pure (.len false (.t 34)))), 
  (.mk (some 36) none (.pure (.mv (.c (.i .i64 0)))))]) (.block 0 (.loop (.seq (.ops [
  (.mk (some 37) none (.pure (.bin .lss (.t 36) (.t 35))))]) (.seq (.cond (.t 37) .skip (.exit 0)) (.seq (.block 1 (.seq (.ops [
  (.mk (some 38) none (.pure (.ixS 4 (.t 34) (.t 36)))), 
  (.mk (some 39) none (.ld false 4 (.t 38))), 
  (.mk (some 10) none (.al 31 [(.i .i64 0), (.i .i64 0), (.i .i64 0), (.i .i64 0)])), 
  (.mk none none (.st 4 (.t 10) (.t 39)))]) (.seq (.ops [
  (.mk (some 40) none (.ld false 3 (.t 8))), 
  (.mk (some 41) none (.ld false 4 (.t 10))), 
  (.mk (some 42) none (.call 60 [(.t 40), (.t 41)])), 
  (.mk (some 43) none (.pure (.not (.t 42))))]) (.cond (.t 43) (.seq (.ops [
  (.mk (some 44) none (.pure (.build [(.i .i64 0), (.i .i64 0), .nsl] []))), 
  (.mk none none (.st 3 (.t 6) (.t 44))), 
  (.mk (some 7) none (.pure (.mv (.c (.i .i64 2)))))]) .ret) .skip)))) (.ops [
  (.mk (some 45) none (.pure (.bin .add (.t 36) (.c (.i .i64 1))))), 
  (.mk (some 36) none (.pure (.mv (.t 45))))]))))))) (.seq (.ops [
  (.mk (some 46) none (.ld false 3 (.t 8))), 
  (.mk none none (.st 3 (.t 6) (.t 46))), 
  (.mk (some 7) none (.pure (.mv (.c (.i .i64 0)))))]) .ret)))))))
def fn44 : AFn := (AFn.mk 4 [(.t 2)] (.seq (.ops [
  (.mk (some 1) none (.bx 55 3 (.t 0))), 
  (.mk (some 2) none (.pure (.mv (.c .nfn))))]) (.seq (.ops [
  (.mk (some 3) none (.pure (.mkfn 61 [] [(.t 1)]))), 
  (.mk (some 2) none (.pure (.mv (.t 3))))]) .ret)))
def fn54 : AFn := (AFn.mk 74 [(.t 4), (.t 5)] (.seq (.ops [
  (.mk (some 2) none (.bx 55 3 (.t 0))), 
  (.mk (some 4) none (.pure (.mv (.c .nsl)))), 
  (.mk (some 5) none (.pure (.mv (.c (.b false)))))]) (.seq (.ops [
  (.mk (some 6) none (.al 96 [(.b false), (.b false), (.b false), (.b false), (.b false), (.b false)]))]) (.seq (.ops [
  (.mk (some 7) none (.pure (.mv (.c .nsl))))]) (.seq (.seq (.ops [
  (.mk (some 12) none (.pure (.mv (.t 1)))), 
  (.mk (some 13) none (.pure (.len false (.t 12)))), 
  (.mk (some 14) none (.pure (.mv (.c (.i .i64 0)))))]) (.block 0 (.loop (.seq (.ops [
  (.mk (some 15) none (.pure (.bin .lss (.t 14) (.t 13))))]) (.seq (.cond (.t 15) .skip (.exit 0)) (.seq (.block 1 (.seq (.ops [
  (.mk (some 16) none (.pure (.mv (.t 14)))), 
  (.mk (some 17) none (.pure (.ixS 1 (.t 12) (.t 14)))), 
  (.mk (some 18) none (.ld true 1 (.t 17))), 
  (.mk (some 8) none (.pure (.mv (.t 16)))), 
  (.mk (some 9) none (.pure (.mv (.t 18))))]) (.seq (.ops [
  (.mk (some 20) none (.ld false 3 (.t 2))), 
  (.mk (some 21) none (.pure (.mv (.t 9)))), 
  (.mk (some 22) none (.call 74 [(.t 20), (.t 21)])), 
  (.mk (some 19) none (.pure (.mv (.t 22)))), 
  (.mk (some 23) none (.pure (.ext 0 (.t 19)))), 
  (.mk (some 24) none (.pure (.ext 1 (.t 19)))), 
  (.mk (some 10) none (.al 31 [(.i .i64 0), (.i .i64 0), (.i .i64 0), (.i .i64 0)])), 
  (.mk none none (.st 4 (.t 10) (.t 23))), 
  (.mk (some 11) none (.pure (.mv (.t 24))))]) (.seq (.seq (.any [(
  (.mk (some 25) none (.pure (.mv (.t 11)))), false), (
  (.mk (some 26) none (.pure (.not (.t 25)))), false), (
  (.mk (some 27) none (.pure (.mv (.t 26)))), false), (
  (.mk (some 28) (some (27, false)) (.pure (.faddr 1 (.t 10)))), false), (
  (.mk (some 29) (some (27, false)) (.ld true 1 (.t 28))), false), (
  (.mk (some 30) (some (27, false)) (.pure (.ixA 6 1 (.t 6) (.t 29)))), false), (
  (.mk (some 31) (some (27, false)) (.ld true 1 (.t 30))), false), (
  (.mk (some 32) none (.pure (.pick (.t 27) (.c (.b true)) (.t 31)))), false), (
  (.mk (some 33) none (.pure (.mv (.t 32)))), false), (
  (.mk (some 34) (some (33, false)) (.pure (.mv (.t 8)))), false), (
  (.mk (some 35) (some (33, false)) (.pure (.bin .gtr (.t 34) (.c (.i .i64 0))))), false), (
  (.mk (some 36) (some (33, false)) (.pure (.mv (.t 35)))), false), (
  (.mk (some 37) (some (36, true)) (.pure (.faddr 0 (.t 10)))), false), (
  (.mk (some 38) (some (36, true)) (.ld true 1 (.t 37))), false), (
  (.mk (some 39) (some (36, true)) (.pure (.mv (.t 7)))), false), (
  (.mk (some 40) (some (36, true)) (.pure (.mv (.t 8)))), false), (
  (.mk (some 41) (some (36, true)) (.pure (.bin .sub (.t 40) (.c (.i .i64 1))))), false), (
  (.mk (some 42) (some (36, true)) (.pure (.ixS 4 (.t 39) (.t 41)))), false), (
  (.mk (some 43) (some (36, true)) (.pure (.faddr 1 (.t 42)))), false), (
  (.mk (some 44) (some (36, true)) (.ld true 1 (.t 43))), false), (
  (.mk (some 45) (some (36, true)) (.pure (.bin .neq (.t 38) (.t 44)))), false), (
  (.mk (some 46) (some (33, false)) (.pure (.pick (.t 36) (.t 45) (.c (.b false))))), false), (
  (.mk (some 47) none (.pure (.pick (.t 33) (.c (.b true)) (.t 46)))), false)]) (.cond (.t 47) (.seq (.ops [
  (.mk (some 4) none (.pure (.mv (.c .nsl)))), 
  (.mk (some 5) none (.pure (.mv (.c (.b false)))))]) .ret) .skip)) (.seq (.ops [
  (.mk (some 48) none (.pure (.faddr 1 (.t 10)))), 
  (.mk (some 49) none (.ld true 1 (.t 48))), 
  (.mk (some 50) none (.pure (.ixA 6 1 (.t 6) (.t 49)))), 
  (.mk none none (.st 1 (.t 50) (.c (.b true))))]) (.ops [
  (.mk (some 51) none (.pure (.mv (.t 7)))), 
  (.mk (some 52) none (.ld false 4 (.t 10))), 
  (.mk (some 53) none (.bsl 31 4 [(.i .i64 0), (.i .i64 0), (.i .i64 0), (.i .i64 0)] 1 [((0, 4), (.t 52))])), 
  (.mk (some 54) none (.app 31 4 32 [(.i .i64 0), (.i .i64 0), (.i .i64 0), (.i .i64 0)] (.t 51) (.t 53))), 
  (.mk (some 7) none (.pure (.mv (.t 54))))])))))) (.ops [
  (.mk (some 55) none (.pure (.bin .add (.t 14) (.c (.i .i64 1))))), 
  (.mk (some 14) none (.pure (.mv (.t 55))))]))))))) (.seq (.seq (.any [(
  (.mk (some 56) none (.pure (.mv (.t 7)))), false), (
  (.mk (some 57) none (.pure (.len false (.t 56)))), false), (
  (.mk (some 58) none (.pure (.bin .lss (.t 57) (.c (.i .i64 2))))), false), (
  (.mk (some 59) none (.pure (.mv (.t 58)))), false), (
  (.mk (some 60) (some (59, false)) (.pure (.mv (.t 7)))), false), (
  (.mk (some 61) (some (59, false)) (.pure (.mv (.t 7)))), false), (
  (.mk (some 62) (some (59, false)) (.pure (.len false (.t 61)))), false), (
  (.mk (some 63) (some (59, false)) (.pure (.bin .sub (.t 62) (.c (.i .i64 1))))), false), (
  (.mk (some 64) (some (59, false)) (.pure (.ixS 4 (.t 60) (.t 63)))), false), (
  (.mk (some 65) (some (59, false)) (.pure (.faddr 1 (.t 64)))), false), (
  (.mk (some 66) (some (59, false)) (.ld true 1 (.t 65))), false), (
  (.mk (some 67) (some (59, false)) (.pure (.mv (.t 7)))), false), (
  (.mk (some 68) (some (59, false)) (.pure (.ixS 4 (.t 67) (.c (.i .i64 0))))), false), (
  (.mk (some 69) (some (59, false)) (.pure (.faddr 0 (.t 68)))), false), (
  (.mk (some 70) (some (59, false)) (.ld true 1 (.t 69))), false), (
  (.mk (some 71) (some (59, false)) (.pure (.bin .neq (.t 66) (.t 70)))), false), (
  (.mk (some 72) none (.pure (.pick (.t 59) (.c (.b true)) (.t 71)))), false)]) (.cond (.t 72) (.seq (.ops [
  (.mk (some 4) none (.pure (.mv (.c .nsl)))), 
  (.mk (some 5) none (.pure (.mv (.c (.b false)))))]) .ret) .skip)) (.seq (.ops [
  (.mk (some 73) none (.pure (.mv (.t 7)))), 
  (.mk (some 4) none (.pure (.mv (.t 73)))), 
  (.mk (some 5) none (.pure (.mv (.c (.b true)))))]) .ret)))))))
def fn55 : AFn := (AFn.mk 14 [(.t 6)] (.seq (.ops [
  (.mk (some 3) none (.bx 55 3 (.t 0))), 
  (.mk (some 6) none (.pure (.mv (.c (.b false)))))]) (.seq (.ops [
  (.mk (some 7) none (.pure (.mv (.t 2)))), 
  (.mk (some 8) none (.ld false 3 (.t 3))), 
  (.mk (some 9) none (.pure (.mv (.t 2)))), 
  (.mk (some 10) none (.call 70 [(.t 8), (.t 9)])), 
  (.mk (some 11) none (.pure (.bin .sub (.t 7) (.t 10)))), 
  (.mk (some 12) none (.pure (.mv (.t 1)))), 
  (.mk (some 13) none (.pure (.bin .lss (.t 11) (.t 12)))), 
  (.mk (some 6) none (.pure (.mv (.t 13))))]) .ret)))
def fn57 : AFn := (AFn.mk 42 [(.t 4)] (.seq (.ops [
  (.mk (some 2) none (.bx 55 3 (.t 0))), 
  (.mk (some 3) none (.bx 3 1 (.t 1))), 
  (.mk (some 4) none (.pure (.mv (.c .nsl))))]) (.seq (.ops [
  (.mk (some 5) none (.al 96 [(.b false), (.b false), (.b false), (.b false), (.b false), (.b false)]))]) (.seq (.ops [
  (.mk (some 6) none (.al 25 [.nsl]))]) (.seq (.ops [
  (.mk (some 7) none (.al 3 [(.i .i64 0)])), 
  (.mk none none (.st 1 (.t 7) (.c (.i .i64 0))))]) (.seq (.ops [
  (.mk (some 8) none (.al 74 [.nfn]))]) (.seq (.ops [
  (.mk (some 11) none (.pure (.mkfn 75 [] [(.t 6), (.t 3), (.t 7), (.t 2), (.t 5), (.t 8)]))), 
  (.mk none none (.st 1 (.t 8) (.t 11)))]) (.seq (.seq (.ops [
  (.mk (some 12) none (.pure (.faddr 2 (.t 2)))), 
  (.mk (some 13) none (.ld true 1 (.t 12))), 
  (.mk (some 14) none (.pure (.len false (.t 13)))), 
  (.mk (some 15) none (.pure (.mv (.c (.i .i64 0)))))]) (.block 0 (.loop (.seq (.ops [
  (.mk (some 16) none (.pure (.bin .lss (.t 15) (.t 14))))]) (.seq (.cond (.t 16) .skip (.exit 0)) (.seq (.block 1 (.seq (.ops [
  (.mk (some 17) none (.pure (.mv (.t 15)))), 
  (.mk (some 18) none (.pure (.ixS 4 (.t 13) (.t 15)))), 
  (.mk (some 19) none (.ld false 4 (.t 18))), 
  (.mk (some 10) none (.al 31 [(.i .i64 0), (.i .i64 0), (.i .i64 0), (.i .i64 0)])), 
  (.mk (some 9) none (.pure (.mv (.t 17)))), 
  (.mk none none (.st 4 (.t 10) (.t 19)))]) (.seq (.ops [
  (.mk (some 20) none (.pure (.faddr 0 (.t 10)))), 
  (.mk (some 21) none (.ld true 1 (.t 20))), 
  (.mk none none (.st 1 (.t 7) (.t 21)))]) (.seq (.ops [
  (.mk (some 22) none (.ld true 1 (.t 7))), 
  (.mk (some 23) none (.pure (.ixA 6 1 (.t 5) (.t 22)))), 
  (.mk none none (.st 1 (.t 23) (.c (.b true))))]) (.seq (.ops [
  (.mk (some 24) none (.ld true 1 (.t 6))), 
  (.mk (some 25) none (.pure (.slS 1 (.t 24) none (some (.c (.i .i64 0))) none))), 
  (.mk (some 26) none (.pure (.mv (.t 9)))), 
  (.mk (some 27) none (.pure (.bin .add (.t 26) (.c (.i .i64 1))))), 
  (.mk (some 28) none (.bsl 3 1 [(.i .i64 0)] 1 [((0, 1), (.t 27))])), 
  (.mk (some 29) none (.app 3 1 8 [(.i .i64 0)] (.t 25) (.t 28))), 
  (.mk none none (.st 1 (.t 6) (.t 29)))]) (.seq (.seq (.opsY [
  (.mk (some 30) none (.ld true 1 (.t 8))), 
  (.mk (some 31) none (.pure (.faddr 1 (.t 10)))), 
  (.mk (some 32) none (.ld true 1 (.t 31))), 
  (.mk (some 33) none (.pure (.faddr 2 (.t 10)))), 
  (.mk (some 34) none (.ld true 1 (.t 33))), 
  (.mk (some 35) none (.pure (.faddr 3 (.t 10)))), 
  (.mk (some 36) none (.ld true 1 (.t 35))), 
  (.mk (some 37) none (.callv (.t 30) [(.t 32), (.t 34), (.t 36)]))]) (.cond (.t 37) (.seq (.ops [
  (.mk (some 38) none (.ld true 1 (.t 6))), 
  (.mk (some 4) none (.pure (.mv (.t 38))))]) .ret) .skip)) (.ops [
  (.mk (some 39) none (.ld true 1 (.t 7))), 
  (.mk (some 40) none (.pure (.ixA 6 1 (.t 5) (.t 39)))), 
  (.mk none none (.st 1 (.t 40) (.c (.b false))))]))))))) (.ops [
  (.mk (some 41) none (.pure (.bin .add (.t 15) (.c (.i .i64 1))))), 
  (.mk (some 15) none (.pure (.mv (.t 41))))]))))))) (.seq (.ops [
  (.mk (some 4) none (.pure (.mv (.c .nsl))))]) .ret)))))))))
def fn60 : AFn := (AFn.mk 52 [(.t 4)] (.seq (.ops [
  (.mk (some 2) none (.bx 55 3 (.t 0))), 
  (.mk (some 3) none (.bx 31 4 (.t 1))), 
  (.mk (some 4) none (.pure (.mv (.c (.b false)))))]) (.seq (.seq (.ops [
  (.mk (some 5) none (.pure (.faddr 0 (.t 3)))), 
  (.mk (some 6) none (.ld true 1 (.t 5))), 
  (.mk (some 7) none (.pure (.faddr 1 (.t 3)))), 
  (.mk (some 8) none (.ld true 1 (.t 7))), 
  (.mk (some 9) none (.pure (.bin .eql (.t 6) (.t 8)))), 
  (.mk (some 10) none (.pure (.mv (.t 9)))), 
  (.mk (some 11) (some (10, false)) (.pure (.faddr 0 (.t 3)))), 
  (.mk (some 12) (some (10, false)) (.ld true 1 (.t 11))), 
  (.mk (some 13) (some (10, false)) (.pure (.faddr 1 (.t 3)))), 
  (.mk (some 14) (some (10, false)) (.ld true 1 (.t 13))), 
  (.mk (some 15) (some (10, false)) (.pure (.mx false (.t 12) (.t 14)))), 
  (.mk (some 16) (some (10, false)) (.pure (.bin .lss (.t 15) (.c (.i .i64 0))))), 
  (.mk (some 17) none (.pure (.pick (.t 10) (.c (.b true)) (.t 16)))), 
  (.mk (some 18) none (.pure (.mv (.t 17)))), 
  (.mk (some 19) (some (18, false)) (.pure (.faddr 0 (.t 3)))), 
  (.mk (some 20) (some (18, false)) (.ld true 1 (.t 19))), 
  (.mk (some 21) (some (18, false)) (.pure (.faddr 1 (.t 3)))), 
  (.mk (some 22) (some (18, false)) (.ld true 1 (.t 21))), 
  (.mk (some 23) (some (18, false)) (.pure (.mx true (.t 20) (.t 22)))), 
  (.mk (some 24) (some (18, false)) (.pure (.faddr 1 (.t 2)))), 
  (.mk (some 25) (some (18, false)) (.ld true 1 (.t 24))), 
  (.mk (some 26) (some (18, false)) (.pure (.bin .geq (.t 23) (.t 25)))), 
  (.mk (some 27) none (.pure (.pick (.t 18) (.c (.b true)) (.t 26))))]) (.cond (.t 27) (.seq (.ops [
  (.mk (some 4) none (.pure (.mv (.c (.b false)))))]) .ret) .skip)) (.seq (.seq (.ops [
  (.mk (some 28) none (.pure (.faddr 2 (.t 3)))), 
  (.mk (some 29) none (.ld true 1 (.t 28))), 
  (.mk (some 30) none (.pure (.bin .lss (.t 29) (.c (.i .i64 (-600)))))), 
  (.mk (some 31) none (.pure (.mv (.t 30)))), 
  (.mk (some 32) (some (31, false)) (.pure (.faddr 2 (.t 3)))), 
  (.mk (some 33) (some (31, false)) (.ld true 1 (.t 32))), 
  (.mk (some 34) (some (31, false)) (.pure (.bin .gtr (.t 33) (.c (.i .i64 600))))), 
  (.mk (some 35) none (.pure (.pick (.t 31) (.c (.b true)) (.t 34))))]) (.cond (.t 35) (.seq (.ops [
  (.mk (some 4) none (.pure (.mv (.c (.b false)))))]) .ret) .skip)) (.seq (.ops [
  (.mk (some 36) none (.pure (.faddr 3 (.t 3)))), 
  (.mk (some 37) none (.ld true 1 (.t 36))), 
  (.mk (some 38) none (.pure (.faddr 2 (.t 3)))), 
  (.mk (some 39) none (.ld true 1 (.t 38))), 
  (.mk (some 40) none (.pure (.bin .geq (.t 37) (.t 39)))), 
  (.mk (some 41) none (.pure (.mv (.t 40)))), 
  (.mk (some 42) (some (41, true)) (.pure (.faddr 3 (.t 3)))), 
  (.mk (some 43) (some (41, true)) (.ld true 1 (.t 42))), 
  (.mk (some 44) (some (41, true)) (.pure (.faddr 2 (.t 3)))), 
  (.mk (some 45) (some (41, true)) (.ld true 1 (.t 44))), 
  (.mk (some 46) (some (41, true)) (.pure (.faddr 0 (.t 2)))), 
  (.mk (some 47) (some (41, true)) (.ld true 1 (.t 46))), 
  (.mk (some 48) (some (41, true)) (.pure (.bin .add (.t 45) (.t 47)))), 
  (.mk (some 49) (some (41, true)) (.pure (.bin .sub (.t 48) (.c (.i .i64 1))))), 
  (.mk (some 50) (some (41, true)) (.pure (.bin .leq (.t 43) (.t 49)))), 
  (.mk (some 51) none (.pure (.pick (.t 41) (.t 50) (.c (.b false))))), 
  (.mk (some 4) none (.pure (.mv (.t 51))))]) .ret)))))
def fn61 : AFn := (AFn.mk 62 [] (.seq (.ops [
  (.mk (some 7) none (.ld false 3 (.t 1))), 
  (.mk (some 8) none (.call 62 [(.t 7)])), 
  (.mk (some 3) none (.al 84 [(.i .u32 0), (.i .u32 0), (.i .u32 0), (.i .u32 0), (.i .u32 0), (.i .u32 0), (.i .u32 0), (.i .u32 0), (.i .u32 0), (.i .u32 0), (.i .u32 0), (.i .u32 0), (.i .u32 0), (.i .u32 0), (.i .u32 0), (.i .u32 0), (.i .u32 0), (.i .u32 0), (.i .u32 0), (.i .u32 0), (.i .u32 0), (.i .u32 0), (.i .u32 0), (.i .u32 0), (.i .u32 0), (.i .u32 0), (.i .u32 0), (.i .u32 0), (.i .u32 0), (.i .u32 0), (.i .u32 0), (.i .u32 0), (.i .u32 0), (.i .u32 0), (.i .u32 0), (.i .u32 0)])), 
  (.mk none none (.st 36 (.t 3) (.t 8)))]) (.seq (.ops [
  (.mk (some 9) none (.pure (.faddr 1 (.t 1)))), 
  (.mk (some 10) none (.ld true 1 (.t 9))), 
  (.mk (some 11) none (.mk 3 1 8 [(.i .i64 0)] (.t 10) (.t 10))), 
  (.mk (some 4) none (.pure (.mv (.t 11))))]) (.seq (.ops [
  (.mk (some 12) none (.pure (.faddr 1 (.t 1)))), 
  (.mk (some 13) none (.ld true 1 (.t 12))), 
  (.mk (some 14) none (.mk 81 1 4 [(.i .u32 0)] (.t 13) (.t 13))), 
  (.mk (some 5) none (.pure (.mv (.t 14))))]) (.seq (.ops [
  (.mk (some 15) none (.pure (.mv (.t 5)))), 
  (.mk (some 16) none (.pure (.ixS 1 (.t 15) (.c (.i .i64 0))))), 
  (.mk none none (.st 1 (.t 16) (.c (.i .u32 1))))]) (.seq (.ops [
  (.mk (some 6) none (.pure (.mv (.c (.i .i64 0)))))]) (.seq .skip (.block 0 (.loop (.seq (.seq (.ops [
  (.mk (some 17) none (.pure (.mv (.t 6)))), 
  (.mk (some 18) none (.pure (.bin .geq (.t 17) (.c (.i .i64 0)))))]) (.cond (.t 18) .skip (.exit 0))) (.block 1 (.seq (.block 2 (.loop (.seq (.seq (.ops [
  (.mk (some 19) none (.pure (.mv (.t 5)))), 
  (.mk (some 20) none (.pure (.mv (.t 6)))), 
  (.mk (some 21) none (.pure (.ixS 1 (.t 19) (.t 20)))), 
  (.mk (some 22) none (.ld true 1 (.t 21))), 
  (.mk (some 23) none (.pure (.bin .neq (.t 22) (.c (.i .u32 0)))))]) (.cond (.t 23) .skip (.exit 2))) (.block 3 (.seq (.ops [
  (.mk (some 24) none (.pure (.mv (.t 4)))), 
  (.mk (some 25) none (.pure (.mv (.t 6)))), 
  (.mk (some 26) none (.pure (.mv (.t 5)))), 
  (.mk (some 27) none (.pure (.mv (.t 6)))), 
  (.mk (some 28) none (.pure (.ixS 1 (.t 26) (.t 27)))), 
  (.mk (some 29) none (.ld true 1 (.t 28))), 
  (.mk (some 30) none (.call 63 [(.t 29)])), 
  (.mk (some 31) none (.pure (.ixS 1 (.t 24) (.t 25)))), 
  (.mk none none (.st 1 (.t 31) (.t 30)))]) (.seq (.ops [
  (.mk (some 32) none (.pure (.mv (.t 5)))), 
  (.mk (some 33) none (.pure (.mv (.t 6)))), 
  (.mk (some 34) none (.pure (.mv (.t 5)))), 
  (.mk (some 35) none (.pure (.mv (.t 6)))), 
  (.mk (some 36) none (.pure (.ixS 1 (.t 34) (.t 35)))), 
  (.mk (some 37) none (.ld true 1 (.t 36))), 
  (.mk (some 38) none (.call 64 [(.t 37)])), 
  (.mk (some 39) none (.pure (.ixS 1 (.t 32) (.t 33)))), 
  (.mk none none (.st 1 (.t 39) (.t 38)))]) (.seq (.seq (.ops [
  (.mk (some 40) none (.pure (.mv (.t 6)))), 
  (.mk (some 41) none (.pure (.bin .add (.t 40) (.c (.i .i64 1))))), 
  (.mk (some 42) none (.pure (.faddr 1 (.t 1)))), 
  (.mk (some 43) none (.ld true 1 (.t 42))), 
  (.mk (some 44) none (.pure (.bin .lss (.t 41) (.t 43))))]) (.cond (.t 44) (.seq (.ops [
  (.mk (some 45) none (.pure (.mv (.t 6)))), 
  (.mk (some 46) none (.pure (.bin .add (.t 45) (.c (.i .i64 1))))), 
  (.mk (some 6) none (.pure (.mv (.t 46))))]) (.seq (.any [(
  (.mk (some 47) none (.pure (.mv (.t 5)))), false), (
  (.mk (some 48) none (.pure (.mv (.t 6)))), false), (
  (.mk (some 49) none (.ld false 3 (.t 1))), false), (
  (.mk (some 50) none (.ld false 36 (.t 3))), false), (
  (.mk (some 51) none (.pure (.mv (.t 4)))), false), (
  (.mk (some 52) none (.pure (.mv (.t 6)))), false), (
  (.mk (some 53) none (.pure (.slS 1 (.t 51) none (some (.t 52)) none))), false), (
  (.mk (some 54) none (.call 65 [(.t 49), (.t 50), (.t 53)])), false), (
  (.mk (some 55) none (.pure (.ixS 1 (.t 47) (.t 48)))), false), (
  (.mk none none (.st 1 (.t 55) (.t 54))), false)]) (.exit 1))) .skip)) (.seq (.opsY [
  (.mk (some 56) none (.pure (.mv (.t 0)))), 
  (.mk (some 57) none (.pure (.mv (.t 4)))), 
  (.mk (some 58) none (.callv (.t 56) [(.t 57)])), 
  (.mk (some 59) none (.pure (.not (.t 58))))]) (.cond (.t 59) .ret .skip))))))))) (.ops [
  (.mk (some 60) none (.pure (.mv (.t 6)))), 
  (.mk (some 61) none (.pure (.bin .sub (.t 60) (.c (.i .i64 1))))), 
  (.mk (some 6) none (.pure (.mv (.t 61))))])))))))))))))
def fn62 : AFn := (AFn.mk 64 [(.c 2 false 36)] (.seq (.ops [
  (.mk (some 1) none (.bx 55 3 (.t 0))), 
  (.mk (some 2) none (.al 84 [(.i .u32 0), (.i .u32 0), (.i .u32 0), (.i .u32 0), (.i .u32 0), (.i .u32 0), (.i .u32 0), (.i .u32 0), (.i .u32 0), (.i .u32 0), (.i .u32 0), (.i .u32 0), (.i .u32 0), (.i .u32 0), (.i .u32 0), (.i .u32 0), (.i .u32 0), (.i .u32 0), (.i .u32 0), (.i .u32 0), (.i .u32 0), (.i .u32 0), (.i .u32 0), (.i .u32 0), (.i .u32 0), (.i .u32 0), (.i .u32 0), (.i .u32 0), (.i .u32 0), (.i .u32 0), (.i .u32 0), (.i .u32 0), (.i .u32 0), (.i .u32 0), (.i .u32 0), (.i .u32 0)]))]) (.seq (.ops [
  (.mk (some 3) none (.al 84 [(.i .u32 0), (.i .u32 0), (.i .u32 0), (.i .u32 0), (.i .u32 0), (.i .u32 0), (.i .u32 0), (.i .u32 0), (.i .u32 0), (.i .u32 0), (.i .u32 0), (.i .u32 0), (.i .u32 0), (.i .u32 0), (.i .u32 0), (.i .u32 0), (.i .u32 0), (.i .u32 0), (.i .u32 0), (.i .u32 0), (.i .u32 0), (.i .u32 0), (.i .u32 0), (.i .u32 0), (.i .u32 0), (.i .u32 0), (.i .u32 0), (.i .u32 0), (.i .u32 0), (.i .u32 0), (.i .u32 0), (.i .u32 0), (.i .u32 0), (.i .u32 0), (.i .u32 0), (.i .u32 0)]))]) (.seq (.seq (.ops [
  (.mk (some 9) none (.pure (.mv (.c (.i .i64 0)))))]) (.block 0 (.loop (.seq (.ops [
  (.mk (some 10) none (.pure (.bin .lss (.t 9) (.c (.i .i64 6)))))]) (.seq (.cond (.t 10) .skip (.exit 0)) (.seq (.block 1 (.seq (.ops [
  (.mk (some 11) none (.pure (.mv (.t 9)))), 
  (.mk (some 4) none (.pure (.mv (.t 11))))]) (.seq (.ops [
  (.mk (some 12) none (.pure (.mv (.c (.i .i64 0)))))]) (.block 2 (.loop (.seq (.ops [
  (.mk (some 13) none (.pure (.bin .lss (.t 12) (.c (.i .i64 6)))))]) (.seq (.cond (.t 13) .skip (.exit 2)) (.seq (.block 3 (.seq (.ops [
  (.mk (some 14) none (.pure (.mv (.t 12)))), 
  (.mk (some 5) none (.pure (.mv (.t 14))))]) (.ops [
  (.mk (some 15) none (.pure (.mv (.t 4)))), 
  (.mk (some 16) none (.pure (.mv (.t 5)))), 
  (.mk (some 19) none (.pure (.ixA 6 6 (.t 3) (.t 15)))), 
  (.mk (some 17) none (.ld false 3 (.t 1))), 
  (.mk (some 18) none (.call 76 [(.t 17)])), 
  (.mk (some 20) none (.pure (.ixA 6 1 (.t 19) (.t 16)))), 
  (.mk none none (.st 1 (.t 20) (.t 18)))]))) (.ops [
  (.mk (some 21) none (.pure (.bin .add (.t 12) (.c (.i .i64 1))))), 
  (.mk (some 12) none (.pure (.mv (.t 21))))]))))))))) (.ops [
  (.mk (some 22) none (.pure (.bin .add (.t 9) (.c (.i .i64 1))))), 
  (.mk (some 9) none (.pure (.mv (.t 22))))]))))))) (.seq (.seq (.ops [
  (.mk (some 23) none (.pure (.faddr 2 (.t 1)))), 
  (.mk (some 24) none (.ld true 1 (.t 23))), 
  (.mk (some 25) none (.pure (.len false (.t 24)))), 
  (.mk (some 26) none (.pure (.mv (.c (.i .i64 0)))))]) (.block 4 (.loop (.seq (.ops [
  (.mk (some 27) none (.pure (.bin .lss (.t 26) (.t 25))))]) (.seq (.cond (.t 27) .skip (.exit 4)) (.seq (.block 5 (.seq (.ops [
  (.mk (some 28) none (.pure (.ixS 4 (.t 24) (.t 26)))), 
  (.mk (some 29) none (.ld false 4 (.t 28))), 
  (.mk (some 7) none (.al 31 [(.i .i64 0), (.i .i64 0), (.i .i64 0), (.i .i64 0)])), 
  (.mk none none (.st 4 (.t 7) (.t 29)))]) (.seq (.seq (.ops [
  (.mk (some 30) none (.pure (.faddr 0 (.t 7)))), 
  (.mk (some 31) none (.ld true 1 (.t 30))), 
  (.mk (some 32) none (.pure (.faddr 1 (.t 7)))), 
  (.mk (some 33) none (.ld true 1 (.t 32))), 
  (.mk (some 34) none (.pure (.bin .gtr (.t 31) (.t 33))))]) (.cond (.t 34) (.ops [
  (.mk (some 35) none (.ld false 4 (.t 7))), 
  (.mk (some 36) none (.call 77 [(.t 35)])), 
  (.mk none none (.st 4 (.t 7) (.t 36)))]) .skip)) (.seq (.ops [
  (.mk (some 37) none (.pure (.faddr 3 (.t 7)))), 
  (.mk (some 38) none (.ld true 1 (.t 37))), 
  (.mk (some 39) none (.pure (.faddr 2 (.t 7)))), 
  (.mk (some 40) none (.ld true 1 (.t 39))), 
  (.mk (some 41) none (.pure (.bin .sub (.t 38) (.t 40)))), 
  (.mk (some 42) none (.pure (.bin .add (.t 41) (.c (.i .i64 1))))), 
  (.mk (some 43) none (.pure (.bin .shl (.c (.i .u32 1)) (.t 42)))), 
  (.mk (some 44) none (.pure (.bin .sub (.t 43) (.c (.i .u32 1))))), 
  (.mk (some 8) none (.pure (.mv (.t 44))))]) (.any [(
  (.mk (some 45) none (.pure (.faddr 0 (.t 7)))), false), (
  (.mk (some 46) none (.ld true 1 (.t 45))), false), (
  (.mk (some 47) none (.pure (.faddr 1 (.t 7)))), false), (
  (.mk (some 48) none (.ld true 1 (.t 47))), false), (
  (.mk (some 49) none (.pure (.ixA 6 6 (.t 3) (.t 46)))), false), (
  (.mk (some 50) none (.pure (.ixA 6 1 (.t 49) (.t 48)))), false), (
  (.mk (some 51) none (.ld true 1 (.t 50))), false), (
  (.mk (some 52) none (.ld false 3 (.t 1))), false), (
  (.mk (some 53) none (.pure (.mv (.t 8)))), false), (
  (.mk (some 54) none (.ld false 3 (.t 1))), false), (
  (.mk (some 55) none (.pure (.faddr 2 (.t 7)))), false), (
  (.mk (some 56) none (.ld true 1 (.t 55))), false), (
  (.mk (some 57) none (.call 70 [(.t 54), (.t 56)])), false), (
  (.mk (some 58) none (.call 78 [(.t 52), (.t 53), (.t 57)])), false), (
  (.mk (some 59) none (.pure (.bin .and (.t 51) (.t 58)))), false), (
  (.mk (some 60) none (.pure (.ixA 6 6 (.t 3) (.t 46)))), false), (
  (.mk (some 61) none (.pure (.ixA 6 1 (.t 60) (.t 48)))), false), (
  (.mk none none (.st 1 (.t 61) (.t 59))), false)]))))) (.ops [
  (.mk (some 62) none (.pure (.bin .add (.t 26) (.c (.i .i64 1))))), 
  (.mk (some 26) none (.pure (.mv (.t 62))))]))))))) (.seq (.ops [
  (.mk (some 63) none (.ld false 36 (.t 3))), 
  (.mk none none (.st 36 (.t 2) (.t 63)))]) .ret))))))
def fn63 : AFn := (AFn.mk 5 [(.t 2)] (.seq (.ops [
  (.mk (some 2) none (.pure (.mv (.c (.i .i64 0)))))]) (.seq (.ops [
  (.mk (some 3) none (.pure (.mv (.t 0)))), 
  (.mk (some 4) none (.call 79 [(.t 3)])), 
  (.mk (some 2) none (.pure (.mv (.t 4))))]) .ret)))
def fn64 : AFn := (AFn.mk 7 [(.t 2)] (.seq (.ops [
  (.mk (some 2) none (.pure (.mv (.c (.i .u32 0)))))]) (.seq (.ops [
  (.mk (some 3) none (.pure (.mv (.t 0)))), 
  (.mk (some 4) none (.pure (.mv (.t 0)))), 
  (.mk (some 5) none (.pure (.bin .sub (.t 4) (.c (.i .u32 1))))), 
  (.mk (some 6) none (.pure (.bin .and (.t 3) (.t 5)))), 
  (.mk (some 2) none (.pure (.mv (.t 6))))]) .ret)))
def fn65 : AFn := (AFn.mk 32 [(.t 6)] (.seq (.ops [
  (.mk (some 3) none (.bx 55 3 (.t 0))), 
  (.mk (some 4) none (.bx 84 36 (.t 1))), 
  (.mk (some 6) none (.pure (.mv (.c (.i .u32 0)))))]) (.seq (.ops [
  (.mk (some 10) none (.ld false 3 (.t 3))), 
  (.mk (some 11) none (.call 76 [(.t 10)])), 
  (.mk (some 7) none (.pure (.mv (.t 11))))]) (.seq (.seq (.ops [
  (.mk (some 12) none (.pure (.mv (.t 2)))), 
  (.mk (some 13) none (.pure (.len false (.t 12)))), 
  (.mk (some 14) none (.pure (.mv (.c (.i .i64 0)))))]) (.block 0 (.loop (.seq (.ops [
  (.mk (some 15) none (.pure (.bin .lss (.t 14) (.t 13))))]) (.seq (.cond (.t 15) .skip (.exit 0)) (.seq (.block 1 (.seq (.ops [
  (.mk (some 16) none (.pure (.mv (.t 14)))), 
  (.mk (some 17) none (.pure (.ixS 1 (.t 12) (.t 14)))), 
  (.mk (some 18) none (.ld true 1 (.t 17))), 
  (.mk (some 8) none (.pure (.mv (.t 16)))), 
  (.mk (some 9) none (.pure (.mv (.t 18))))]) (.any [(
  (.mk (some 19) none (.pure (.mv (.t 7)))), false), (
  (.mk (some 20) none (.ld false 3 (.t 3))), false), (
  (.mk (some 21) none (.pure (.mv (.t 8)))), false), (
  (.mk (some 22) none (.pure (.mv (.t 2)))), false), (
  (.mk (some 23) none (.pure (.len false (.t 22)))), false), (
  (.mk (some 24) none (.pure (.ixA 6 6 (.t 4) (.t 21)))), false), (
  (.mk (some 25) none (.pure (.ixA 6 1 (.t 24) (.t 23)))), false), (
  (.mk (some 26) none (.ld true 1 (.t 25))), false), (
  (.mk (some 27) none (.pure (.mv (.t 9)))), false), (
  (.mk (some 28) none (.call 78 [(.t 20), (.t 26), (.t 27)])), false), (
  (.mk (some 29) none (.pure (.bin .and (.t 19) (.t 28)))), false), (
  (.mk (some 7) none (.pure (.mv (.t 29)))), false)]))) (.ops [
  (.mk (some 30) none (.pure (.bin .add (.t 14) (.c (.i .i64 1))))), 
  (.mk (some 14) none (.pure (.mv (.t 30))))]))))))) (.seq (.ops [
  (.mk (some 31) none (.pure (.mv (.t 7)))), 
  (.mk (some 6) none (.pure (.mv (.t 31))))]) .ret)))))
def fn70 : AFn := (AFn.mk 15 [(.t 4)] (.seq (.ops [
  (.mk (some 2) none (.bx 55 3 (.t 0))), 
  (.mk (some 4) none (.pure (.mv (.c (.i .i64 0)))))]) (.seq (.any [(
  (.mk (some 5) none (.pure (.mv (.t 1)))), false), (
  (.mk (some 6) none (.pure (.faddr 0 (.t 2)))), false), (
  (.mk (some 7) none (.ld true 1 (.t 6))), false), (
  (.mk (some 8) none (.pure (.bin .rem (.t 5) (.t 7)))), false), (
  (.mk (some 9) none (.pure (.faddr 0 (.t 2)))), false), (
  (.mk (some 10) none (.ld true 1 (.t 9))), false), (
  (.mk (some 11) none (.pure (.bin .add (.t 8) (.t 10)))), false), (
  (.mk (some 12) none (.pure (.faddr 0 (.t 2)))), false), (
  (.mk (some 13) none (.ld true 1 (.t 12))), false), (
  (.mk (some 14) none (.pure (.bin .rem (.t 11) (.t 13)))), false), (
  (.mk (some 4) none (.pure (.mv (.t 14)))), false)]) .ret)))
def fn74 : AFn := (AFn.mk 42 [(.c 4 false 4), (.t 5)] (.seq (.ops [
  (.mk (some 2) none (.bx 55 3 (.t 0))), 
  (.mk (some 4) none (.al 31 [(.i .i64 0), (.i .i64 0), (.i .i64 0), (.i .i64 0)])), 
  (.mk (some 5) none (.pure (.mv (.c (.b false)))))]) (.seq (.ops [
  (.mk (some 7) none (.pure (.faddr 2 (.t 2)))), 
  (.mk (some 8) none (.ld true 1 (.t 7))), 
  (.mk (some 9) none (.pure (.len false (.t 8)))), 
  (.mk (some 6) none (.pure (.mv (.t 9))))]) (.seq (.block 0 (.seq (.ops [
  (.mk (some 11) none (.pure (.mv (.t 1)))), 
  (.mk (some 12) none (.pure (.bin .geq (.t 11) (.c (.i .i64 1))))), 
  (.mk (some 13) none (.pure (.mv (.t 12)))), 
  (.mk (some 14) (some (13, true)) (.pure (.mv (.t 1)))), 
  (.mk (some 15) (some (13, true)) (.pure (.mv (.t 6)))), 
  (.mk (some 16) (some (13, true)) (.pure (.bin .leq (.t 14) (.t 15)))), 
  (.mk (some 17) none (.pure (.pick (.t 13) (.t 16) (.c (.b false))))), 
  (.mk (some 10) none (.pure (.mv (.t 17))))]) (.cond (.t 10) (.seq (.ops [
  (.mk (some 18) none (.pure (.faddr 2 (.t 2)))), 
  (.mk (some 19) none (.ld true 1 (.t 18))), 
  (.mk (some 20) none (.pure (.mv (.t 1)))), 
  (.mk (some 21) none (.pure (.bin .sub (.t 20) (.c (.i .i64 1))))), 
  (.mk (some 22) none (.pure (.ixS 4 (.t 19) (.t 21)))), 
  (.mk (some 23) none (.ld false 4 (.t 22))), 
  (.mk none none (.st 4 (.t 4) (.t 23))), 
  (.mk (some 5) none (.pure (.mv (.c (.b true)))))]) .ret) (.seq (.ops [
  (.mk (some 25) none (.pure (.mv (.t 1)))), 
  (.mk (some 26) none (.pure (.bin .leq (.t 25) (.c (.i .i64 (-1)))))), 
  (.mk (some 27) none (.pure (.mv (.t 26)))), 
  (.mk (some 28) (some (27, true)) (.pure (.mv (.t 1)))), 
  (.mk (some 29) (some (27, true)) (.pure (.mv (.t 6)))), 
  (.mk (some 30) (some (27, true)) (.pure (.neg (.t 29)))), 
  (.mk (some 31) (some (27, true)) (.pure (.bin .geq (.t 28) (.t 30)))), 
  (.mk (some 32) none (.pure (.pick (.t 27) (.t 31) (.c (.b false))))), 
  (.mk (some 24) none (.pure (.mv (.t 32))))]) (.cond (.t 24) (.seq (.ops [
  (.mk (some 33) none (.pure (.faddr 2 (.t 2)))), 
  (.mk (some 34) none (.ld true 1 (.t 33))), 
  (.mk (some 35) none (.pure (.mv (.t 1)))), 
  (.mk (some 36) none (.pure (.neg (.t 35)))), 
  (.mk (some 37) none (.pure (.bin .sub (.t 36) (.c (.i .i64 1))))), 
  (.mk (some 38) none (.pure (.ixS 4 (.t 34) (.t 37)))), 
  (.mk (some 39) none (.ld false 4 (.t 38))), 
  (.mk (some 40) none (.call 77 [(.t 39)])), 
  (.mk none none (.st 4 (.t 4) (.t 40))), 
  (.mk (some 5) none (.pure (.mv (.c (.b true)))))]) .ret) .skip))))) (.seq (.ops [
  (.mk (some 41) none (.pure (.build [(.i .i64 0), (.i .i64 0), (.i .i64 0), (.i .i64 0)] []))), 
  (.mk none none (.st 4 (.t 4) (.t 41))), 
  (.mk (some 5) none (.pure (.mv (.c (.b false)))))]) .ret)))))
def fn75 : AFn := (AFn.mk 82 [(.t 12)] (.seq (.ops [
  (.mk (some 12) none (.pure (.mv (.c (.b false)))))]) (.seq (.seq (.ops [
  (.mk (some 16) none (.ld true 1 (.t 3))), 
  (.mk (some 17) none (.pure (.len false (.t 16)))), 
  (.mk (some 18) none (.ld true 1 (.t 4))), 
  (.mk (some 19) none (.pure (.bin .eql (.t 17) (.t 18))))]) (.cond (.t 19) (.seq (.ops [
  (.mk (some 20) none (.pure (.mv (.t 0)))), 
  (.mk (some 21) none (.ld true 1 (.t 5))), 
  (.mk (some 22) none (.pure (.bin .eql (.t 20) (.t 21)))), 
  (.mk (some 23) none (.pure (.mv (.t 22)))), 
  (.mk (some 24) (some (23, true)) (.ld false 3 (.t 6))), 
  (.mk (some 25) (some (23, true)) (.pure (.mv (.t 1)))), 
  (.mk (some 26) (some (23, true)) (.pure (.mv (.t 2)))), 
  (.mk (some 27) (some (23, true)) (.call 55 [(.t 24), (.t 25), (.t 26)])), 
  (.mk (some 28) none (.pure (.pick (.t 23) (.t 27) (.c (.b false))))), 
  (.mk (some 12) none (.pure (.mv (.t 28))))]) .ret) .skip)) (.seq (.seq (.ops [
  (.mk (some 29) none (.pure (.mv (.t 0)))), 
  (.mk (some 30) none (.pure (.ixA 6 1 (.t 7) (.t 29)))), 
  (.mk (some 31) none (.ld true 1 (.t 30)))]) (.cond (.t 31) (.seq (.ops [
  (.mk (some 12) none (.pure (.mv (.c (.b false)))))]) .ret) .skip)) (.seq (.ops [
  (.mk (some 32) none (.pure (.mv (.t 0)))), 
  (.mk (some 33) none (.pure (.ixA 6 1 (.t 7) (.t 32)))), 
  (.mk none none (.st 1 (.t 33) (.c (.b true))))]) (.seq (.seq (.ops [
  (.mk (some 34) none (.pure (.faddr 2 (.t 6)))), 
  (.mk (some 35) none (.ld true 1 (.t 34))), 
  (.mk (some 36) none (.pure (.len false (.t 35)))), 
  (.mk (some 37) none (.pure (.neg (.t 36)))), 
  (.mk (some 13) none (.pure (.mv (.t 37))))]) (.block 0 (.loop (.seq (.seq (.ops [
  (.mk (some 38) none (.pure (.mv (.t 13)))), 
  (.mk (some 39) none (.pure (.faddr 2 (.t 6)))), 
  (.mk (some 40) none (.ld true 1 (.t 39))), 
  (.mk (some 41) none (.pure (.len false (.t 40)))), 
  (.mk (some 42) none (.pure (.bin .leq (.t 38) (.t 41))))]) (.cond (.t 42) .skip (.exit 0))) (.seq (.block 1 (.seq (.ops [
  (.mk (some 46) none (.ld false 3 (.t 6))), 
  (.mk (some 47) none (.pure (.mv (.t 13)))), 
  (.mk (some 48) none (.call 74 [(.t 46), (.t 47)])), 
  (.mk (some 45) none (.pure (.mv (.t 48)))), 
  (.mk (some 49) none (.pure (.ext 0 (.t 45)))), 
  (.mk (some 50) none (.pure (.ext 1 (.t 45)))), 
  (.mk (some 14) none (.al 31 [(.i .i64 0), (.i .i64 0), (.i .i64 0), (.i .i64 0)])), 
  (.mk none none (.st 4 (.t 14) (.t 49))), 
  (.mk (some 15) none (.pure (.mv (.t 50))))]) (.seq (.seq (.ops [
  (.mk (some 51) none (.pure (.mv (.t 15)))), 
  (.mk (some 52) none (.pure (.not (.t 51)))), 
  (.mk (some 53) none (.pure (.mv (.t 52)))), 
  (.mk (some 54) (some (53, false)) (.pure (.faddr 0 (.t 14)))), 
  (.mk (some 55) (some (53, false)) (.ld true 1 (.t 54))), 
  (.mk (some 56) (some (53, false)) (.pure (.mv (.t 0)))), 
  (.mk (some 57) (some (53, false)) (.pure (.bin .neq (.t 55) (.t 56)))), 
  (.mk (some 58) none (.pure (.pick (.t 53) (.c (.b true)) (.t 57))))]) (.cond (.t 58) (.exit 1) .skip)) (.seq (.ops [
  (.mk (some 59) none (.ld true 1 (.t 3))), 
  (.mk (some 60) none (.pure (.mv (.t 13)))), 
  (.mk (some 61) none (.bsl 3 1 [(.i .i64 0)] 1 [((0, 1), (.t 60))])), 
  (.mk (some 62) none (.app 3 1 8 [(.i .i64 0)] (.t 59) (.t 61))), 
  (.mk none none (.st 1 (.t 3) (.t 62)))]) (.seq (.seq (.opsY [
  (.mk (some 63) none (.ld true 1 (.t 8))), 
  (.mk (some 64) none (.pure (.faddr 1 (.t 14)))), 
  (.mk (some 65) none (.ld true 1 (.t 64))), 
  (.mk (some 66) none (.pure (.mv (.t 1)))), 
  (.mk (some 67) none (.pure (.faddr 2 (.t 14)))), 
  (.mk (some 68) none (.ld true 1 (.t 67))), 
  (.mk (some 69) none (.pure (.bin .add (.t 66) (.t 68)))), 
  (.mk (some 70) none (.pure (.mv (.t 2)))), 
  (.mk (some 71) none (.pure (.faddr 3 (.t 14)))), 
  (.mk (some 72) none (.ld true 1 (.t 71))), 
  (.mk (some 73) none (.pure (.bin .add (.t 70) (.t 72)))), 
  (.mk (some 74) none (.callv (.t 63) [(.t 65), (.t 69), (.t 73)]))]) (.cond (.t 74) (.seq (.ops [
  (.mk (some 12) none (.pure (.mv (.c (.b true)))))]) .ret) .skip)) (.ops [
  (.mk (some 75) none (.ld true 1 (.t 3))), 
  (.mk (some 76) none (.ld true 1 (.t 3))), 
  (.mk (some 77) none (.pure (.len false (.t 76)))), 
  (.mk (some 78) none (.pure (.bin .sub (.t 77) (.c (.i .i64 1))))), 
  (.mk (some 79) none (.pure (.slS 1 (.t 75) none (some (.t 78)) none))), 
  (.mk none none (.st 1 (.t 3) (.t 79)))])))))) (.ops [
  (.mk (some 43) none (.pure (.mv (.t 13)))), 
  (.mk (some 44) none (.pure (.bin .add (.t 43) (.c (.i .i64 1))))), 
  (.mk (some 13) none (.pure (.mv (.t 44))))])))))) (.seq (.ops [
  (.mk (some 80) none (.pure (.mv (.t 0)))), 
  (.mk (some 81) none (.pure (.ixA 6 1 (.t 7) (.t 80)))), 
  (.mk none none (.st 1 (.t 81) (.c (.b false))))]) (.seq (.ops [
  (.mk (some 12) none (.pure (.mv (.c (.b false)))))]) .ret))))))))
def fn76 : AFn := (AFn.mk 7 [(.t 2)] (.seq (.ops [
  (.mk (some 1) none (.bx 55 3 (.t 0))), 
  (.mk (some 2) none (.pure (.mv (.c (.i .u32 0)))))]) (.seq (.ops [
  (.mk (some 3) none (.pure (.faddr 0 (.t 1)))), 
  (.mk (some 4) none (.ld true 1 (.t 3))), 
  (.mk (some 5) none (.pure (.bin .shl (.c (.i .u32 1)) (.t 4)))), 
  (.mk (some 6) none (.pure (.bin .sub (.t 5) (.c (.i .u32 1))))), 
  (.mk (some 2) none (.pure (.mv (.t 6))))]) .ret)))
def fn77 : AFn := (AFn.mk 14 [(.c 2 false 4)] (.seq (.ops [
  (.mk (some 1) none (.bx 31 4 (.t 0))), 
  (.mk (some 2) none (.al 31 [(.i .i64 0), (.i .i64 0), (.i .i64 0), (.i .i64 0)]))]) (.seq (.ops [
  (.mk (some 3) none (.pure (.faddr 1 (.t 1)))), 
  (.mk (some 4) none (.ld true 1 (.t 3))), 
  (.mk (some 5) none (.pure (.faddr 0 (.t 1)))), 
  (.mk (some 6) none (.ld true 1 (.t 5))), 
  (.mk (some 7) none (.pure (.faddr 3 (.t 1)))), 
  (.mk (some 8) none (.ld true 1 (.t 7))), 
  (.mk (some 9) none (.pure (.neg (.t 8)))), 
  (.mk (some 10) none (.pure (.faddr 2 (.t 1)))), 
  (.mk (some 11) none (.ld true 1 (.t 10))), 
  (.mk (some 12) none (.pure (.neg (.t 11)))), 
  (.mk (some 13) none (.pure (.build [(.i .i64 0), (.i .i64 0), (.i .i64 0), (.i .i64 0)] [((0, 1), (.t 4)), ((1, 1), (.t 6)), ((2, 1), (.t 9)), ((3, 1), (.t 12))]))), 
  (.mk none none (.st 4 (.t 2) (.t 13)))]) .ret)))
def fn78 : AFn := (AFn.mk 20 [(.t 6)] (.seq (.ops [
  (.mk (some 3) none (.bx 55 3 (.t 0))), 
  (.mk (some 6) none (.pure (.mv (.c (.i .u32 0)))))]) (.seq (.any [(
  (.mk (some 7) none (.pure (.mv (.t 1)))), false), (
  (.mk (some 8) none (.pure (.mv (.t 2)))), false), (
  (.mk (some 9) none (.pure (.bin .shl (.t 7) (.t 8)))), false), (
  (.mk (some 10) none (.pure (.mv (.t 1)))), false), (
  (.mk (some 11) none (.pure (.faddr 0 (.t 3)))), false), (
  (.mk (some 12) none (.ld true 1 (.t 11))), false), (
  (.mk (some 13) none (.pure (.mv (.t 2)))), false), (
  (.mk (some 14) none (.pure (.bin .sub (.t 12) (.t 13)))), false), (
  (.mk (some 15) none (.pure (.bin .shr (.t 10) (.t 14)))), false), (
  (.mk (some 16) none (.pure (.bin .or (.t 9) (.t 15)))), false), (
  (.mk (some 17) none (.ld false 3 (.t 3))), false), (
  (.mk (some 18) none (.call 76 [(.t 17)])), false), (
  (.mk (some 19) none (.pure (.bin .and (.t 16) (.t 18)))), false), (
  (.mk (some 6) none (.pure (.mv (.t 19)))), false)]) .ret)))
def fn79 : AFn := (AFn.mk 14 [(.t 2)] (.seq (.ops [
  (.mk (some 2) none (.pure (.mv (.c (.i .i64 0)))))]) (.seq (.seq (.ops [
  (.mk (some 3) none (.pure (.mv (.t 0)))), 
  (.mk (some 4) none (.pure (.bin .eql (.t 3) (.c (.i .u32 0)))))]) (.cond (.t 4) (.seq (.ops [
  (.mk (some 2) none (.pure (.mv (.c (.i .i64 32)))))]) .ret) .skip)) (.seq (.ops [
  (.mk none none (.ld true 1 (.c (.b true))))]) .ret))))
def F (f : Nat) : Option AFn := cond (Nat.blt f 55) (cond (Nat.blt f 30) (cond (Nat.blt f 17) (cond (Nat.blt f 15) (cond (Nat.beq f 9) (some fn9) none) (cond (Nat.blt f 16) (cond (Nat.beq f 15) (some fn15) none) (cond (Nat.beq f 16) (some fn16) none))) (cond (Nat.blt f 20) (cond (Nat.blt f 19) (cond (Nat.beq f 17) (some fn17) none) (cond (Nat.beq f 19) (some fn19) none)) (cond (Nat.blt f 22) (cond (Nat.beq f 20) (some fn20) none) (cond (Nat.beq f 22) (some fn22) none)))) (cond (Nat.blt f 42) (cond (Nat.blt f 36) (cond (Nat.blt f 32) (cond (Nat.beq f 30) (some fn30) none) (cond (Nat.beq f 32) (some fn32) none)) (cond (Nat.blt f 38) (cond (Nat.beq f 36) (some fn36) none) (cond (Nat.beq f 38) (some fn38) none))) (cond (Nat.blt f 44) (cond (Nat.blt f 43) (cond (Nat.beq f 42) (some fn42) none) (cond (Nat.beq f 43) (some fn43) none)) (cond (Nat.blt f 54) (cond (Nat.beq f 44) (some fn44) none) (cond (Nat.beq f 54) (some fn54) none))))) (cond (Nat.blt f 65) (cond (Nat.blt f 61) (cond (Nat.blt f 57) (cond (Nat.beq f 55) (some fn55) none) (cond (Nat.blt f 60) (cond (Nat.beq f 57) (some fn57) none) (cond (Nat.beq f 60) (some fn60) none))) (cond (Nat.blt f 63) (cond (Nat.blt f 62) (cond (Nat.beq f 61) (some fn61) none) (cond (Nat.beq f 62) (some fn62) none)) (cond (Nat.blt f 64) (cond (Nat.beq f 63) (some fn63) none) (cond (Nat.beq f 64) (some fn64) none)))) (cond (Nat.blt f 76) (cond (Nat.blt f 74) (cond (Nat.blt f 70) (cond (Nat.beq f 65) (some fn65) none) (cond (Nat.beq f 70) (some fn70) none)) (cond (Nat.blt f 75) (cond (Nat.beq f 74) (some fn74) none) (cond (Nat.beq f 75) (some fn75) none))) (cond (Nat.blt f 78) (cond (Nat.blt f 77) (cond (Nat.beq f 76) (some fn76) none) (cond (Nat.beq f 77) (some fn77) none)) (cond (Nat.blt f 79) (cond (Nat.beq f 78) (some fn78) none) (cond (Nat.beq f 79) (some fn79) none)))))
end Go.Proofs.YtpjjmdbkgkembaaDoor.T
