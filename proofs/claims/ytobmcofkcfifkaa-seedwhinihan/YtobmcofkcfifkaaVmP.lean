/- The functions that the law reaches, as the small machine takes them. -/
import Derived.Test.YtobmcofkcfifkaaVmA
import Derived.KernelRfl
open Go.Vm
namespace Go.Proofs.Ytobmcofkcfifkaa.T
open Go
def fn14 : AFn := (AFn.mk 146 [(.t 8)] (.seq (.ops [
  (.mk (some 8) none (.pure (.mv (.c (.b false)))))]) (.seq (.ops [
  (.mk (some 23) none (.pure (.mv (.t 2)))), 
  (.mk (some 24) none (.pure (.bin .rem (.t 23) (.c (.i .u8 61))))), 
  (.mk (some 25) none (.pure (.conv .i64 (.t 24)))), 
  (.mk (some 26) none (.pure (.mv (.t 3)))), 
  (.mk (some 27) none (.pure (.bin .rem (.t 26) (.c (.i .u8 60))))), 
  (.mk (some 28) none (.pure (.conv .i64 (.t 27)))), 
  (.mk (some 29) none (.pure (.bin .add (.c (.i .i64 1)) (.t 28)))), 
  (.mk (some 9) none (.pure (.mv (.t 25)))), 
  (.mk (some 10) none (.pure (.mv (.t 29))))]) (.seq (.ops [
  (.mk (some 11) none (.pure (.mv (.c .nsl))))]) (.seq (.seq (.ops [
  (.mk (some 12) none (.pure (.mv (.c (.i .i64 0)))))]) (.block 0 (.loop (.seq (.seq (.ops [
  (.mk (some 30) none (.pure (.mv (.t 12)))), 
  (.mk (some 31) none (.pure (.bin .leq (.t 30) (.c (.i .i64 60)))))]) (.cond (.t 31) .skip (.exit 0))) (.seq (.block 1 (.seq (.ops [
  (.mk (some 34) none (.mk 3 1 8 [(.i .i64 0)] (.c (.i .i64 61)) (.c (.i .i64 61)))), 
  (.mk (some 13) none (.pure (.mv (.t 34))))]) (.seq (.seq (.ops [
  (.mk (some 14) none (.pure (.mv (.c (.i .i64 0)))))]) (.block 2 (.loop (.seq (.seq (.ops [
  (.mk (some 35) none (.pure (.mv (.t 14)))), 
  (.mk (some 36) none (.pure (.mv (.t 13)))), 
  (.mk (some 37) none (.pure (.len false (.t 36)))), 
  (.mk (some 38) none (.pure (.bin .lss (.t 35) (.t 37))))]) (.cond (.t 38) .skip (.exit 2))) (.seq (.block 3 (.ops [
  (.mk (some 41) none (.pure (.mv (.t 13)))), 
  (.mk (some 42) none (.pure (.mv (.t 14)))), 
  (.mk (some 43) none (.pure (.ixS 1 (.t 41) (.t 42)))), 
  (.mk none none (.st 1 (.t 43) (.c (.i .i64 (-1)))))])) (.ops [
  (.mk (some 39) none (.pure (.mv (.t 14)))), 
  (.mk (some 40) none (.pure (.bin .add (.t 39) (.c (.i .i64 1))))), 
  (.mk (some 14) none (.pure (.mv (.t 40))))])))))) (.ops [
  (.mk (some 44) none (.pure (.mv (.t 11)))), 
  (.mk (some 45) none (.pure (.mv (.t 13)))), 
  (.mk (some 46) none (.bsl 50 1 [.nsl] 1 [((0, 1), (.t 45))])), 
  (.mk (some 47) none (.app 50 1 24 [.nsl] (.t 44) (.t 46))), 
  (.mk (some 11) none (.pure (.mv (.t 47))))])))) (.ops [
  (.mk (some 32) none (.pure (.mv (.t 12)))), 
  (.mk (some 33) none (.pure (.bin .add (.t 32) (.c (.i .i64 1))))), 
  (.mk (some 12) none (.pure (.mv (.t 33))))])))))) (.seq (.ops [
  (.mk (some 48) none (.pure (.mv (.t 9)))), 
  (.mk (some 49) none (.pure (.mv (.t 10)))), 
  (.mk (some 50) none (.pure (.mv (.t 11)))), 
  (.mk (some 51) none (.call 49 [(.t 48), (.t 49), (.t 50)])), 
  (.mk (some 15) none (.pure (.mv (.t 51))))]) (.seq (.ops [
  (.mk (some 53) none (.pure (.mv (.t 9)))), 
  (.mk (some 54) none (.pure (.mv (.t 10)))), 
  (.mk (some 55) none (.call 39 [(.t 53), (.t 54)])), 
  (.mk (some 52) none (.pure (.mv (.t 55)))), 
  (.mk (some 56) none (.pure (.ext 0 (.t 52)))), 
  (.mk (some 57) none (.pure (.ext 1 (.t 52)))), 
  (.mk (some 16) none (.pure (.mv (.t 56)))), 
  (.mk (some 17) none (.pure (.mv (.t 57))))]) (.seq (.seq (.ops [
  (.mk (some 58) none (.pure (.mv (.t 15)))), 
  (.mk (some 59) none (.pure (.bin .eql (.t 58) (.c (.i .i64 0))))), 
  (.mk (some 60) none (.pure (.mv (.t 59)))), 
  (.mk (some 61) (some (60, true)) (.pure (.mv (.t 17)))), 
  (.mk (some 62) (some (60, true)) (.pure (.bin .neq (.t 61) (.c (.i .i64 10))))), 
  (.mk (some 63) (some (60, true)) (.pure (.mv (.t 62)))), 
  (.mk (some 64) (some (63, false)) (.pure (.mv (.t 16)))), 
  (.mk (some 65) (some (63, false)) (.pure (.bin .neq (.t 64) (.c (.i .i64 0))))), 
  (.mk (some 66) (some (60, true)) (.pure (.pick (.t 63) (.c (.b true)) (.t 65)))), 
  (.mk (some 67) none (.pure (.pick (.t 60) (.t 66) (.c (.b false))))), 
  (.mk (some 68) none (.pure (.mv (.t 67)))), 
  (.mk (some 69) (some (68, false)) (.pure (.mv (.t 15)))), 
  (.mk (some 70) (some (68, false)) (.pure (.bin .gtr (.t 69) (.c (.i .i64 0))))), 
  (.mk (some 71) (some (68, false)) (.pure (.mv (.t 70)))), 
  (.mk (some 72) (some (71, true)) (.pure (.mv (.t 17)))), 
  (.mk (some 73) (some (71, true)) (.pure (.bin .neq (.t 72) (.c (.i .i64 0))))), 
  (.mk (some 74) (some (71, true)) (.pure (.mv (.t 73)))), 
  (.mk (some 75) (some (74, false)) (.pure (.mv (.t 16)))), 
  (.mk (some 76) (some (74, false)) (.pure (.mv (.t 15)))), 
  (.mk (some 77) (some (74, false)) (.pure (.bin .neq (.t 75) (.t 76)))), 
  (.mk (some 78) (some (71, true)) (.pure (.pick (.t 74) (.c (.b true)) (.t 77)))), 
  (.mk (some 79) (some (68, false)) (.pure (.pick (.t 71) (.t 78) (.c (.b false))))), 
  (.mk (some 80) none (.pure (.pick (.t 68) (.c (.b true)) (.t 79))))]) (.cond (.t 80) (.seq (.ops [
  (.mk (some 8) none (.pure (.mv (.c (.b false)))))]) .ret) .skip)) (.seq (.ops [
  (.mk (some 81) none (.pure (.mv (.t 0)))), 
  (.mk (some 82) none (.call 45 [(.t 81)])), 
  (.mk (some 83) none (.pure (.mv (.t 1)))), 
  (.mk (some 84) none (.call 45 [(.t 83)])), 
  (.mk (some 85) none (.pure (.mx true (.c (.i .i64 1)) (.t 84)))), 
  (.mk (some 18) none (.pure (.mv (.t 82)))), 
  (.mk (some 19) none (.pure (.mv (.t 85))))]) (.seq (.seq (.ops [
  (.mk (some 86) none (.pure (.mv (.t 18)))), 
  (.mk (some 87) none (.pure (.bin .eql (.t 86) (.c (.i .i64 0)))))]) (.cond (.t 87) (.seq (.ops [
  (.mk (some 88) none (.call 18 [])), 
  (.mk (some 8) none (.pure (.mv (.t 88))))]) .ret) .skip)) (.seq (.ops [
  (.mk (some 90) none (.pure (.mv (.t 18)))), 
  (.mk (some 91) none (.call 19 [(.t 90)])), 
  (.mk (some 89) none (.pure (.mv (.t 91)))), 
  (.mk (some 92) none (.pure (.ext 0 (.t 89)))), 
  (.mk (some 93) none (.pure (.ext 1 (.t 89)))), 
  (.mk (some 20) none (.pure (.mv (.t 92)))), 
  (.mk (some 17) none (.pure (.mv (.t 93))))]) (.seq (.seq (.ops [
  (.mk (some 94) none (.pure (.mv (.t 17)))), 
  (.mk (some 95) none (.pure (.bin .neq (.t 94) (.c (.i .i64 0)))))]) (.cond (.t 95) (.seq (.ops [
  (.mk (some 8) none (.pure (.mv (.c (.b false)))))]) .ret) .skip)) (.seq (.ops [
  (.mk (some 97) none (.pure (.mv (.t 20)))), 
  (.mk (some 98) none (.pure (.mv (.t 20)))), 
  (.mk (some 99) none (.pure (.len true (.t 98)))), 
  (.mk (some 100) none (.pure (.mv (.t 20)))), 
  (.mk (some 101) none (.call 48 [(.t 100)])), 
  (.mk (some 102) none (.pure (.bin .sub (.t 99) (.t 101)))), 
  (.mk (some 103) none (.pure (.slStr (.t 97) (some (.t 102)) none))), 
  (.mk (some 104) none (.pure (.sbin .add (.c (.s [49])) (.t 103)))), 
  (.mk (some 105) none (.call 21 [(.t 104)])), 
  (.mk (some 96) none (.pure (.mv (.t 105)))), 
  (.mk (some 106) none (.pure (.ext 0 (.t 96)))), 
  (.mk (some 107) none (.pure (.ext 1 (.t 96)))), 
  (.mk (some 21) none (.pure (.mv (.t 106)))), 
  (.mk (some 17) none (.pure (.mv (.t 107))))]) (.seq (.ops [
  (.mk (some 109) none (.pure (.mv (.t 18)))), 
  (.mk (some 110) none (.pure (.mv (.t 19)))), 
  (.mk (some 111) none (.call 39 [(.t 109), (.t 110)])), 
  (.mk (some 108) none (.pure (.mv (.t 111)))), 
  (.mk (some 112) none (.pure (.ext 0 (.t 108)))), 
  (.mk (some 113) none (.pure (.ext 1 (.t 108)))), 
  (.mk (some 16) none (.pure (.mv (.t 112)))), 
  (.mk (some 22) none (.pure (.mv (.t 113))))]) (.seq (.ops [
  (.mk (some 114) none (.pure (.mv (.t 17)))), 
  (.mk (some 115) none (.pure (.bin .eql (.t 114) (.c (.i .i64 0))))), 
  (.mk (some 116) none (.pure (.mv (.t 115)))), 
  (.mk (some 117) (some (116, true)) (.pure (.mv (.t 21)))), 
  (.mk (some 118) (some (116, true)) (.pure (.mv (.t 19)))), 
  (.mk (some 119) (some (116, true)) (.pure (.bin .leq (.t 117) (.t 118)))), 
  (.mk (some 120) (some (116, true)) (.pure (.mv (.t 119)))), 
  (.mk (some 121) (some (120, true)) (.pure (.mv (.t 22)))), 
  (.mk (some 122) (some (120, true)) (.pure (.bin .eql (.t 121) (.c (.i .i64 0))))), 
  (.mk (some 123) (some (116, true)) (.pure (.pick (.t 120) (.t 122) (.c (.b false))))), 
  (.mk (some 124) (some (116, true)) (.pure (.mv (.t 123)))), 
  (.mk (some 125) (some (124, true)) (.pure (.mv (.t 16)))), 
  (.mk (some 126) (some (124, true)) (.pure (.mv (.t 21)))), 
  (.mk (some 127) (some (124, true)) (.pure (.bin .eql (.t 125) (.t 126)))), 
  (.mk (some 128) (some (116, true)) (.pure (.pick (.t 124) (.t 127) (.c (.b false))))), 
  (.mk (some 129) (some (116, true)) (.pure (.mv (.t 128)))), 
  (.mk (some 130) (some (129, false)) (.pure (.mv (.t 21)))), 
  (.mk (some 131) (some (129, false)) (.pure (.mv (.t 19)))), 
  (.mk (some 132) (some (129, false)) (.pure (.bin .gtr (.t 130) (.t 131)))), 
  (.mk (some 133) (some (129, false)) (.pure (.mv (.t 132)))), 
  (.mk (some 134) (some (133, true)) (.pure (.mv (.t 22)))), 
  (.mk (some 135) (some (133, true)) (.pure (.bin .eql (.t 134) (.c (.i .i64 10))))), 
  (.mk (some 136) (some (129, false)) (.pure (.pick (.t 133) (.t 135) (.c (.b false))))), 
  (.mk (some 137) (some (129, false)) (.pure (.mv (.t 136)))), 
  (.mk (some 138) (some (137, true)) (.pure (.mv (.t 16)))), 
  (.mk (some 139) (some (137, true)) (.pure (.bin .eql (.t 138) (.c (.i .i64 0))))), 
  (.mk (some 140) (some (129, false)) (.pure (.pick (.t 137) (.t 139) (.c (.b false))))), 
  (.mk (some 141) (some (116, true)) (.pure (.pick (.t 129) (.c (.b true)) (.t 140)))), 
  (.mk (some 142) none (.pure (.pick (.t 116) (.t 141) (.c (.b false))))), 
  (.mk (some 143) none (.pure (.mv (.t 142)))), 
  (.mk (some 144) (some (143, true)) (.call 18 [])), 
  (.mk (some 145) none (.pure (.pick (.t 143) (.t 144) (.c (.b false))))), 
  (.mk (some 8) none (.pure (.mv (.t 145))))]) .ret)))))))))))))))
def fn18 : AFn := (AFn.mk 75 [(.t 0)] (.seq (.ops [
  (.mk (some 0) none (.pure (.mv (.c (.b false)))))]) (.seq (.ops [
  (.mk (some 13) none (.call 19 [(.c (.i .i64 11))])), 
  (.mk (some 12) none (.pure (.mv (.t 13)))), 
  (.mk (some 14) none (.pure (.ext 0 (.t 12)))), 
  (.mk (some 15) none (.pure (.ext 1 (.t 12)))), 
  (.mk (some 1) none (.pure (.mv (.t 14)))), 
  (.mk (some 2) none (.pure (.mv (.t 15))))]) (.seq (.ops [
  (.mk (some 17) none (.call 25 [(.c (.i .i64 11))])), 
  (.mk (some 16) none (.pure (.mv (.t 17)))), 
  (.mk (some 18) none (.pure (.ext 0 (.t 16)))), 
  (.mk (some 19) none (.pure (.ext 1 (.t 16)))), 
  (.mk (some 3) none (.pure (.mv (.t 18)))), 
  (.mk (some 4) none (.pure (.mv (.t 19))))]) (.seq (.ops [
  (.mk (some 21) none (.call 29 [(.c (.i .i64 3)), (.c (.i .i64 4))])), 
  (.mk (some 20) none (.pure (.mv (.t 21)))), 
  (.mk (some 22) none (.pure (.ext 0 (.t 20)))), 
  (.mk (some 23) none (.pure (.ext 1 (.t 20)))), 
  (.mk (some 5) none (.pure (.mv (.t 22)))), 
  (.mk (some 6) none (.pure (.mv (.t 23))))]) (.seq (.ops [
  (.mk (some 25) none (.call 37 [(.c (.i .i64 2)), (.c (.i .i64 2))])), 
  (.mk (some 24) none (.pure (.mv (.t 25)))), 
  (.mk (some 26) none (.pure (.ext 0 (.t 24)))), 
  (.mk (some 27) none (.pure (.ext 1 (.t 24)))), 
  (.mk (some 28) none (.pure (.ext 2 (.t 24)))), 
  (.mk (some 7) none (.pure (.mv (.t 26)))), 
  (.mk (some 8) none (.pure (.mv (.t 27)))), 
  (.mk (some 9) none (.pure (.mv (.t 28))))]) (.seq (.ops [
  (.mk (some 30) none (.call 39 [(.c (.i .i64 11)), (.c (.i .i64 10))])), 
  (.mk (some 29) none (.pure (.mv (.t 30)))), 
  (.mk (some 31) none (.pure (.ext 0 (.t 29)))), 
  (.mk (some 32) none (.pure (.ext 1 (.t 29)))), 
  (.mk (some 10) none (.pure (.mv (.t 31)))), 
  (.mk (some 11) none (.pure (.mv (.t 32))))]) (.seq (.ops [
  (.mk (some 33) none (.pure (.mv (.t 2)))), 
  (.mk (some 34) none (.pure (.bin .eql (.t 33) (.c (.i .i64 0))))), 
  (.mk (some 35) none (.pure (.mv (.t 34)))), 
  (.mk (some 36) (some (35, true)) (.pure (.mv (.t 1)))), 
  (.mk (some 37) (some (35, true)) (.pure (.sbin .eql (.t 36) (.c (.s [49, 48, 49, 48, 48]))))), 
  (.mk (some 38) none (.pure (.pick (.t 35) (.t 37) (.c (.b false))))), 
  (.mk (some 39) none (.pure (.mv (.t 38)))), 
  (.mk (some 40) (some (39, true)) (.pure (.mv (.t 4)))), 
  (.mk (some 41) (some (39, true)) (.pure (.bin .eql (.t 40) (.c (.i .i64 0))))), 
  (.mk (some 42) none (.pure (.pick (.t 39) (.t 41) (.c (.b false))))), 
  (.mk (some 43) none (.pure (.mv (.t 42)))), 
  (.mk (some 44) (some (43, true)) (.pure (.mv (.t 3)))), 
  (.mk (some 45) (some (43, true)) (.pure (.bin .eql (.t 44) (.c (.i .i64 3))))), 
  (.mk (some 46) none (.pure (.pick (.t 43) (.t 45) (.c (.b false))))), 
  (.mk (some 47) none (.pure (.mv (.t 46)))), 
  (.mk (some 48) (some (47, true)) (.pure (.mv (.t 6)))), 
  (.mk (some 49) (some (47, true)) (.pure (.bin .eql (.t 48) (.c (.i .i64 0))))), 
  (.mk (some 50) none (.pure (.pick (.t 47) (.t 49) (.c (.b false))))), 
  (.mk (some 51) none (.pure (.mv (.t 50)))), 
  (.mk (some 52) (some (51, true)) (.pure (.mv (.t 5)))), 
  (.mk (some 53) (some (51, true)) (.pure (.bin .eql (.t 52) (.c (.i .i64 29))))), 
  (.mk (some 54) none (.pure (.pick (.t 51) (.t 53) (.c (.b false))))), 
  (.mk (some 55) none (.pure (.mv (.t 54)))), 
  (.mk (some 56) (some (55, true)) (.pure (.mv (.t 9)))), 
  (.mk (some 57) (some (55, true)) (.pure (.bin .eql (.t 56) (.c (.i .i64 0))))), 
  (.mk (some 58) none (.pure (.pick (.t 55) (.t 57) (.c (.b false))))), 
  (.mk (some 59) none (.pure (.mv (.t 58)))), 
  (.mk (some 60) (some (59, true)) (.pure (.mv (.t 7)))), 
  (.mk (some 61) (some (59, true)) (.pure (.bin .eql (.t 60) (.c (.i .i64 0))))), 
  (.mk (some 62) none (.pure (.pick (.t 59) (.t 61) (.c (.b false))))), 
  (.mk (some 63) none (.pure (.mv (.t 62)))), 
  (.mk (some 64) (some (63, true)) (.pure (.mv (.t 8)))), 
  (.mk (some 65) (some (63, true)) (.pure (.bin .eql (.t 64) (.c (.i .i64 1))))), 
  (.mk (some 66) none (.pure (.pick (.t 63) (.t 65) (.c (.b false))))), 
  (.mk (some 67) none (.pure (.mv (.t 66)))), 
  (.mk (some 68) (some (67, true)) (.pure (.mv (.t 11)))), 
  (.mk (some 69) (some (67, true)) (.pure (.bin .eql (.t 68) (.c (.i .i64 0))))), 
  (.mk (some 70) none (.pure (.pick (.t 67) (.t 69) (.c (.b false))))), 
  (.mk (some 71) none (.pure (.mv (.t 70)))), 
  (.mk (some 72) (some (71, true)) (.pure (.mv (.t 10)))), 
  (.mk (some 73) (some (71, true)) (.pure (.bin .eql (.t 72) (.c (.i .i64 3))))), 
  (.mk (some 74) none (.pure (.pick (.t 71) (.t 73) (.c (.b false))))), 
  (.mk (some 0) none (.pure (.mv (.t 74))))]) .ret))))))))
def fn19 : AFn := (AFn.mk 10 [(.t 2), (.t 3)] (.seq (.ops [
  (.mk (some 2) none (.pure (.mv (.c (.s []))))), 
  (.mk (some 3) none (.pure (.mv (.c (.i .i64 0)))))]) (.seq (.seq (.ops [
  (.mk (some 4) none (.pure (.mv (.t 0)))), 
  (.mk (some 5) none (.bsl 3 1 [(.i .i64 0)] 1 [((0, 1), (.t 4))])), 
  (.mk (some 6) none (.call 51 [(.t 5)])), 
  (.mk (some 7) none (.pure (.not (.t 6))))]) (.cond (.t 7) (.seq (.ops [
  (.mk (some 2) none (.pure (.mv (.c (.s []))))), 
  (.mk (some 3) none (.pure (.mv (.c (.i .i64 4)))))]) .ret) .skip)) (.seq (.ops [
  (.mk (some 8) none (.pure (.mv (.t 0)))), 
  (.mk (some 9) none (.call 52 [(.t 8)])), 
  (.mk (some 2) none (.pure (.mv (.t 9)))), 
  (.mk (some 3) none (.pure (.mv (.c (.i .i64 0)))))]) .ret))))
def fn21 : AFn := (AFn.mk 13 [(.t 2), (.t 3)] (.seq (.ops [
  (.mk (some 2) none (.pure (.mv (.c (.i .i64 0))))), 
  (.mk (some 3) none (.pure (.mv (.c (.i .i64 0)))))]) (.seq (.seq (.ops [
  (.mk (some 5) none (.pure (.mv (.t 0)))), 
  (.mk (some 6) none (.call 55 [(.t 5)])), 
  (.mk (some 7) none (.pure (.not (.t 6))))]) (.cond (.t 7) (.seq (.ops [
  (.mk (some 2) none (.pure (.mv (.c (.i .i64 0))))), 
  (.mk (some 3) none (.pure (.mv (.c (.i .i64 5)))))]) .ret) .skip)) (.seq (.ops [
  (.mk (some 8) none (.pure (.mv (.t 0)))), 
  (.mk (some 9) none (.call 56 [(.t 8)])), 
  (.mk (some 4) none (.pure (.mv (.t 9))))]) (.seq (.seq (.ops [
  (.mk (some 10) none (.pure (.mv (.t 4)))), 
  (.mk (some 11) none (.pure (.bin .gtr (.t 10) (.c (.i .i64 1152921504606846976)))))]) (.cond (.t 11) (.seq (.ops [
  (.mk (some 2) none (.pure (.mv (.c (.i .i64 0))))), 
  (.mk (some 3) none (.pure (.mv (.c (.i .i64 4)))))]) .ret) .skip)) (.seq (.ops [
  (.mk (some 12) none (.pure (.mv (.t 4)))), 
  (.mk (some 2) none (.pure (.mv (.t 12)))), 
  (.mk (some 3) none (.pure (.mv (.c (.i .i64 0)))))]) .ret))))))
def fn25 : AFn := (AFn.mk 39 [(.t 2), (.t 3)] (.seq (.ops [
  (.mk (some 2) none (.pure (.mv (.c (.i .i64 0))))), 
  (.mk (some 3) none (.pure (.mv (.c (.i .i64 0)))))]) (.seq (.seq (.ops [
  (.mk (some 10) none (.pure (.mv (.t 0)))), 
  (.mk (some 11) none (.bsl 3 1 [(.i .i64 0)] 1 [((0, 1), (.t 10))])), 
  (.mk (some 12) none (.call 51 [(.t 11)])), 
  (.mk (some 13) none (.pure (.not (.t 12))))]) (.cond (.t 13) (.seq (.ops [
  (.mk (some 2) none (.pure (.mv (.c (.i .i64 0))))), 
  (.mk (some 3) none (.pure (.mv (.c (.i .i64 4)))))]) .ret) .skip)) (.seq (.ops [
  (.mk (some 4) none (.al 3 [(.i .i64 0)])), 
  (.mk (some 5) none (.al 3 [(.i .i64 0)])), 
  (.mk (some 6) none (.al 3 [(.i .i64 0)])), 
  (.mk none none (.st 1 (.t 4) (.c (.i .i64 1)))), 
  (.mk none none (.st 1 (.t 5) (.c (.i .i64 0)))), 
  (.mk none none (.st 1 (.t 6) (.c (.i .i64 1))))]) (.seq (.seq (.ops [
  (.mk (some 14) none (.pure (.mv (.t 0)))), 
  (.mk (some 15) none (.call 60 [(.t 14)])), 
  (.mk (some 16) none (.call 59 [(.t 15)]))]) (.block 0 (.rng (.t 16) [17, 18] (.ops [
  (.mk (some 8) none (.pure (.mv (.t 18))))]) (.block 1 (.seq (.ops [
  (.mk (some 19) none (.pure (.mv (.t 8)))), 
  (.mk (some 20) none (.ld true 1 (.t 6))), 
  (.mk (some 21) none (.pure (.bin .sub (.t 19) (.t 20)))), 
  (.mk (some 9) none (.pure (.mv (.t 21))))]) (.seq (.any [(
  (.mk (some 22) none (.ld true 1 (.t 4))), false), (
  (.mk (some 23) none (.ld true 1 (.t 5))), false), (
  (.mk (some 24) none (.pure (.bin .add (.t 22) (.t 23)))), false), (
  (.mk (some 25) none (.ld true 1 (.t 4))), false), (
  (.mk (some 26) none (.pure (.mv (.t 9)))), false), (
  (.mk (some 27) none (.pure (.bin .sub (.t 26) (.c (.i .i64 1))))), false), (
  (.mk (some 28) none (.pure (.bin .quo (.t 27) (.c (.i .i64 2))))), false), (
  (.mk (some 29) none (.pure (.bin .mul (.t 25) (.t 28)))), false), (
  (.mk (some 30) none (.ld true 1 (.t 5))), true), (
  (.mk (some 31) none (.pure (.mv (.t 9)))), false), (
  (.mk (some 32) none (.pure (.bin .quo (.t 31) (.c (.i .i64 2))))), false), (
  (.mk (some 33) none (.pure (.bin .mul (.t 30) (.t 32)))), false), (
  (.mk (some 34) none (.pure (.bin .add (.t 29) (.t 33)))), false), (
  (.mk none none (.st 1 (.t 4) (.t 24))), false), (
  (.mk none none (.st 1 (.t 5) (.t 34))), true)]) (.ops [
  (.mk (some 35) none (.pure (.mv (.t 8)))), 
  (.mk none none (.st 1 (.t 6) (.t 35)))]))))))) (.seq (.ops [
  (.mk (some 36) none (.ld true 1 (.t 4))), 
  (.mk (some 37) none (.ld true 1 (.t 5))), 
  (.mk (some 38) none (.pure (.bin .add (.t 36) (.t 37)))), 
  (.mk (some 2) none (.pure (.mv (.t 38)))), 
  (.mk (some 3) none (.pure (.mv (.c (.i .i64 0)))))]) .ret))))))
def fn29 : AFn := (AFn.mk 31 [(.t 4), (.t 5)] (.seq (.ops [
  (.mk (some 4) none (.pure (.mv (.c (.i .i64 0))))), 
  (.mk (some 5) none (.pure (.mv (.c (.i .i64 0)))))]) (.seq (.seq (.ops [
  (.mk (some 9) none (.pure (.mv (.t 0)))), 
  (.mk (some 10) none (.pure (.mv (.t 1)))), 
  (.mk (some 11) none (.bsl 3 1 [(.i .i64 0)] 2 [((0, 1), (.t 9)), ((1, 1), (.t 10))])), 
  (.mk (some 12) none (.call 51 [(.t 11)])), 
  (.mk (some 13) none (.pure (.not (.t 12))))]) (.cond (.t 13) (.seq (.ops [
  (.mk (some 4) none (.pure (.mv (.c (.i .i64 0))))), 
  (.mk (some 5) none (.pure (.mv (.c (.i .i64 4)))))]) .ret) .skip)) (.seq (.ops [
  (.mk (some 6) none (.pure (.mv (.c (.i .i64 0)))))]) (.seq (.seq (.ops [
  (.mk (some 14) none (.pure (.mv (.t 1)))), 
  (.mk (some 15) none (.call 60 [(.t 14)])), 
  (.mk (some 16) none (.pure (.len false (.t 15)))), 
  (.mk (some 17) none (.pure (.mv (.c (.i .i64 0)))))]) (.block 0 (.loop (.seq (.ops [
  (.mk (some 18) none (.pure (.bin .lss (.t 17) (.t 16))))]) (.seq (.cond (.t 18) .skip (.exit 0)) (.seq (.block 1 (.seq (.ops [
  (.mk (some 19) none (.pure (.ixS 1 (.t 15) (.t 17)))), 
  (.mk (some 20) none (.ld true 1 (.t 19))), 
  (.mk (some 8) none (.pure (.mv (.t 20))))]) (.ops [
  (.mk (some 21) none (.pure (.mv (.t 6)))), 
  (.mk (some 22) none (.pure (.mv (.t 0)))), 
  (.mk (some 23) none (.pure (.mv (.t 8)))), 
  (.mk (some 24) none (.call 63 [(.t 22), (.t 23)])), 
  (.mk (some 25) none (.pure (.bin .add (.t 21) (.t 24)))), 
  (.mk (some 26) none (.pure (.mx false (.t 25) (.c (.i .i64 1152921504606846977))))), 
  (.mk (some 6) none (.pure (.mv (.t 26))))]))) (.ops [
  (.mk (some 27) none (.pure (.bin .add (.t 17) (.c (.i .i64 1))))), 
  (.mk (some 17) none (.pure (.mv (.t 27))))]))))))) (.seq (.seq (.ops [
  (.mk (some 28) none (.pure (.mv (.t 6)))), 
  (.mk (some 29) none (.pure (.bin .gtr (.t 28) (.c (.i .i64 1152921504606846976)))))]) (.cond (.t 29) (.seq (.ops [
  (.mk (some 4) none (.pure (.mv (.c (.i .i64 0))))), 
  (.mk (some 5) none (.pure (.mv (.c (.i .i64 4)))))]) .ret) .skip)) (.seq (.ops [
  (.mk (some 30) none (.pure (.mv (.t 6)))), 
  (.mk (some 4) none (.pure (.mv (.t 30)))), 
  (.mk (some 5) none (.pure (.mv (.c (.i .i64 0)))))]) .ret)))))))
def fn37 : AFn := (AFn.mk 56 [(.t 4), (.t 5), (.t 6)] (.seq (.ops [
  (.mk (some 4) none (.pure (.mv (.c (.i .i64 0))))), 
  (.mk (some 5) none (.pure (.mv (.c (.i .i64 0))))), 
  (.mk (some 6) none (.pure (.mv (.c (.i .i64 0)))))]) (.seq (.seq (.ops [
  (.mk (some 9) none (.pure (.mv (.t 0)))), 
  (.mk (some 10) none (.pure (.mv (.t 1)))), 
  (.mk (some 11) none (.bsl 3 1 [(.i .i64 0)] 2 [((0, 1), (.t 9)), ((1, 1), (.t 10))])), 
  (.mk (some 12) none (.call 51 [(.t 11)])), 
  (.mk (some 13) none (.pure (.not (.t 12))))]) (.cond (.t 13) (.seq (.ops [
  (.mk (some 4) none (.pure (.mv (.c (.i .i64 0))))), 
  (.mk (some 5) none (.pure (.mv (.c (.i .i64 0))))), 
  (.mk (some 6) none (.pure (.mv (.c (.i .i64 4)))))]) .ret) .skip)) (.seq (.seq (.ops [
  (.mk (some 14) none (.pure (.mv (.t 0)))), 
  (.mk (some 15) none (.call 68 [(.t 14)])), 
  (.mk (some 16) none (.pure (.mv (.t 1)))), 
  (.mk (some 17) none (.pure (.bin .eql (.t 15) (.t 16))))]) (.cond (.t 17) (.seq (.ops [
  (.mk (some 4) none (.pure (.mv (.c (.i .i64 0))))), 
  (.mk (some 5) none (.pure (.mv (.c (.i .i64 0))))), 
  (.mk (some 6) none (.pure (.mv (.c (.i .i64 10)))))]) .ret) .skip)) (.seq (.seq (.ops [
  (.mk (some 18) none (.pure (.mv (.t 0)))), 
  (.mk (some 19) none (.call 68 [(.t 18)])), 
  (.mk (some 20) none (.pure (.mv (.t 1)))), 
  (.mk (some 21) none (.pure (.bin .lss (.t 19) (.t 20))))]) (.cond (.t 21) (.seq (.ops [
  (.mk (some 22) none (.pure (.mv (.t 1)))), 
  (.mk (some 23) none (.pure (.mv (.t 0)))), 
  (.mk (some 24) none (.call 68 [(.t 23)])), 
  (.mk (some 25) none (.pure (.bin .sub (.t 22) (.t 24)))), 
  (.mk (some 4) none (.pure (.mv (.c (.i .i64 0))))), 
  (.mk (some 5) none (.pure (.mv (.t 25)))), 
  (.mk (some 6) none (.pure (.mv (.c (.i .i64 0)))))]) .ret) .skip)) (.seq (.ops [
  (.mk (some 26) none (.pure (.mv (.t 0)))), 
  (.mk (some 27) none (.pure (.mv (.t 1)))), 
  (.mk (some 28) none (.call 68 [(.t 27)])), 
  (.mk (some 29) none (.pure (.bin .sub (.t 26) (.t 28)))), 
  (.mk (some 7) none (.pure (.mv (.t 29))))]) (.seq (.ops [
  (.mk (some 30) none (.pure (.mv (.t 0)))), 
  (.mk (some 31) none (.pure (.mv (.t 1)))), 
  (.mk (some 32) none (.pure (.mx false (.t 30) (.t 31)))), 
  (.mk (some 33) none (.pure (.mv (.t 0)))), 
  (.mk (some 34) none (.pure (.mv (.t 1)))), 
  (.mk (some 35) none (.pure (.mx true (.t 33) (.t 34)))), 
  (.mk (some 36) none (.pure (.mv (.t 0)))), 
  (.mk (some 37) none (.pure (.mv (.t 1)))), 
  (.mk (some 38) none (.pure (.mx false (.t 36) (.t 37)))), 
  (.mk (some 39) none (.pure (.bin .sub (.t 35) (.t 38)))), 
  (.mk (some 40) none (.call 66 [(.t 39)])), 
  (.mk (some 41) none (.pure (.bin .sub (.t 32) (.t 40)))), 
  (.mk (some 8) none (.pure (.mv (.t 41))))]) (.seq (.seq (.ops [
  (.mk (some 42) none (.pure (.mv (.t 8)))), 
  (.mk (some 43) none (.pure (.bin .gtr (.t 42) (.c (.i .i64 0))))), 
  (.mk (some 44) none (.pure (.mv (.t 43)))), 
  (.mk (some 45) (some (44, true)) (.pure (.mv (.t 7)))), 
  (.mk (some 46) (some (44, true)) (.pure (.bin .lss (.t 45) (.c (.i .i64 0))))), 
  (.mk (some 47) (some (44, true)) (.pure (.mv (.t 46)))), 
  (.mk (some 48) (some (47, false)) (.pure (.mv (.t 8)))), 
  (.mk (some 49) (some (47, false)) (.pure (.mv (.t 7)))), 
  (.mk (some 50) (some (47, false)) (.pure (.bin .lss (.t 48) (.t 49)))), 
  (.mk (some 51) (some (44, true)) (.pure (.pick (.t 47) (.c (.b true)) (.t 50)))), 
  (.mk (some 52) none (.pure (.pick (.t 44) (.t 51) (.c (.b false)))))]) (.cond (.t 52) (.seq (.ops [
  (.mk (some 53) none (.pure (.mv (.t 8)))), 
  (.mk (some 54) none (.pure (.mv (.t 8)))), 
  (.mk (some 4) none (.pure (.mv (.t 53)))), 
  (.mk (some 5) none (.pure (.mv (.t 54)))), 
  (.mk (some 6) none (.pure (.mv (.c (.i .i64 0)))))]) .ret) .skip)) (.seq (.ops [
  (.mk (some 55) none (.pure (.mv (.t 7)))), 
  (.mk (some 4) none (.pure (.mv (.t 55)))), 
  (.mk (some 5) none (.pure (.mv (.c (.i .i64 0))))), 
  (.mk (some 6) none (.pure (.mv (.c (.i .i64 0)))))]) .ret)))))))))
def fn39 : AFn := (AFn.mk 22 [(.t 4), (.t 5)] (.seq (.ops [
  (.mk (some 4) none (.pure (.mv (.c (.i .i64 0))))), 
  (.mk (some 5) none (.pure (.mv (.c (.i .i64 0)))))]) (.seq (.seq (.ops [
  (.mk (some 7) none (.pure (.mv (.t 0)))), 
  (.mk (some 8) none (.bsl 3 1 [(.i .i64 0)] 1 [((0, 1), (.t 7))])), 
  (.mk (some 9) none (.call 51 [(.t 8)])), 
  (.mk (some 10) none (.pure (.not (.t 9))))]) (.cond (.t 10) (.seq (.ops [
  (.mk (some 4) none (.pure (.mv (.c (.i .i64 0))))), 
  (.mk (some 5) none (.pure (.mv (.c (.i .i64 4)))))]) .ret) .skip)) (.seq (.seq (.ops [
  (.mk (some 11) none (.pure (.mv (.t 1)))), 
  (.mk (some 12) none (.pure (.bin .lss (.t 11) (.c (.i .i64 1)))))]) (.cond (.t 12) (.seq (.ops [
  (.mk (some 4) none (.pure (.mv (.c (.i .i64 0))))), 
  (.mk (some 5) none (.pure (.mv (.c (.i .i64 2)))))]) .ret) .skip)) (.seq (.seq (.ops [
  (.mk (some 13) none (.pure (.mv (.t 0)))), 
  (.mk (some 14) none (.pure (.bin .eql (.t 13) (.c (.i .i64 0)))))]) (.cond (.t 14) (.seq (.ops [
  (.mk (some 4) none (.pure (.mv (.c (.i .i64 0))))), 
  (.mk (some 5) none (.pure (.mv (.c (.i .i64 10)))))]) .ret) .skip)) (.seq (.ops [
  (.mk (some 15) none (.pure (.mv (.t 0)))), 
  (.mk (some 16) none (.call 72 [(.t 15)])), 
  (.mk (some 17) none (.call 71 [(.t 16)])), 
  (.mk (some 6) none (.pure (.mv (.t 17))))]) (.seq (.seq (.ops [
  (.mk (some 18) none (.pure (.mv (.t 6)))), 
  (.mk (some 19) none (.pure (.mv (.t 1)))), 
  (.mk (some 20) none (.pure (.bin .gtr (.t 18) (.t 19))))]) (.cond (.t 20) (.seq (.ops [
  (.mk (some 4) none (.pure (.mv (.c (.i .i64 0))))), 
  (.mk (some 5) none (.pure (.mv (.c (.i .i64 10)))))]) .ret) .skip)) (.seq (.ops [
  (.mk (some 21) none (.pure (.mv (.t 6)))), 
  (.mk (some 4) none (.pure (.mv (.t 21)))), 
  (.mk (some 5) none (.pure (.mv (.c (.i .i64 0)))))]) .ret))))))))
def fn45 : AFn := (AFn.mk 6 [(.t 2)] (.seq (.ops [
  (.mk (some 2) none (.pure (.mv (.c (.i .i64 0)))))]) (.seq (.ops [
  (.mk (some 3) none (.pure (.mv (.t 0)))), 
  (.mk (some 4) none (.pure (.bin .rem (.t 3) (.c (.i .u64 1152921504606846977))))), 
  (.mk (some 5) none (.pure (.conv .i64 (.t 4)))), 
  (.mk (some 2) none (.pure (.mv (.t 5))))]) .ret)))
def fn48 : AFn := (AFn.mk 21 [(.t 2)] (.seq (.ops [
  (.mk (some 2) none (.pure (.mv (.c (.i .i64 0)))))]) (.seq (.ops [
  (.mk (some 3) none (.pure (.mv (.c (.i .i64 0)))))]) (.seq (.block 0 (.loop (.seq (.seq (.ops [
  (.mk (some 4) none (.pure (.mv (.t 3)))), 
  (.mk (some 5) none (.pure (.mv (.t 0)))), 
  (.mk (some 6) none (.pure (.len true (.t 5)))), 
  (.mk (some 7) none (.pure (.bin .lss (.t 4) (.t 6)))), 
  (.mk (some 8) none (.pure (.mv (.t 7)))), 
  (.mk (some 9) (some (8, true)) (.pure (.mv (.t 0)))), 
  (.mk (some 10) (some (8, true)) (.pure (.mv (.t 0)))), 
  (.mk (some 11) (some (8, true)) (.pure (.len true (.t 10)))), 
  (.mk (some 12) (some (8, true)) (.pure (.bin .sub (.t 11) (.c (.i .i64 1))))), 
  (.mk (some 13) (some (8, true)) (.pure (.mv (.t 3)))), 
  (.mk (some 14) (some (8, true)) (.pure (.bin .sub (.t 12) (.t 13)))), 
  (.mk (some 15) (some (8, true)) (.pure (.ixStr (.t 9) (.t 14)))), 
  (.mk (some 16) (some (8, true)) (.pure (.bin .eql (.t 15) (.c (.i .u8 48))))), 
  (.mk (some 17) none (.pure (.pick (.t 8) (.t 16) (.c (.b false)))))]) (.cond (.t 17) .skip (.exit 0))) (.block 1 (.ops [
  (.mk (some 18) none (.pure (.mv (.t 3)))), 
  (.mk (some 19) none (.pure (.bin .add (.t 18) (.c (.i .i64 1))))), 
  (.mk (some 3) none (.pure (.mv (.t 19))))]))))) (.seq (.ops [
  (.mk (some 20) none (.pure (.mv (.t 3)))), 
  (.mk (some 2) none (.pure (.mv (.t 20))))]) .ret)))))
def fn49 : AFn := (AFn.mk 59 [(.t 6)] (.seq (.ops [
  (.mk (some 6) none (.pure (.mv (.c (.i .i64 0)))))]) (.seq (.ops [
  (.mk (some 9) none (.pure (.mv (.t 1)))), 
  (.mk (some 10) none (.pure (.mv (.t 0)))), 
  (.mk (some 11) none (.pure (.mx false (.t 9) (.t 10)))), 
  (.mk (some 1) none (.pure (.mv (.t 11))))]) (.seq (.seq (.ops [
  (.mk (some 12) none (.pure (.mv (.t 0)))), 
  (.mk (some 13) none (.pure (.bin .eql (.t 12) (.c (.i .i64 0))))), 
  (.mk (some 14) none (.pure (.mv (.t 13)))), 
  (.mk (some 15) (some (14, false)) (.pure (.mv (.t 1)))), 
  (.mk (some 16) (some (14, false)) (.pure (.bin .eql (.t 15) (.c (.i .i64 0))))), 
  (.mk (some 17) none (.pure (.pick (.t 14) (.c (.b true)) (.t 16))))]) (.cond (.t 17) (.seq (.ops [
  (.mk (some 6) none (.pure (.mv (.c (.i .i64 0)))))]) .ret) .skip)) (.seq (.seq (.ops [
  (.mk (some 18) none (.pure (.mv (.t 2)))), 
  (.mk (some 19) none (.pure (.mv (.t 0)))), 
  (.mk (some 20) none (.pure (.ixS 1 (.t 18) (.t 19)))), 
  (.mk (some 21) none (.ld true 1 (.t 20))), 
  (.mk (some 22) none (.pure (.mv (.t 1)))), 
  (.mk (some 23) none (.pure (.ixS 1 (.t 21) (.t 22)))), 
  (.mk (some 24) none (.ld true 1 (.t 23))), 
  (.mk (some 25) none (.pure (.bin .geq (.t 24) (.c (.i .i64 0)))))]) (.cond (.t 25) (.seq (.ops [
  (.mk (some 26) none (.pure (.mv (.t 2)))), 
  (.mk (some 27) none (.pure (.mv (.t 0)))), 
  (.mk (some 28) none (.pure (.ixS 1 (.t 26) (.t 27)))), 
  (.mk (some 29) none (.ld true 1 (.t 28))), 
  (.mk (some 30) none (.pure (.mv (.t 1)))), 
  (.mk (some 31) none (.pure (.ixS 1 (.t 29) (.t 30)))), 
  (.mk (some 32) none (.ld true 1 (.t 31))), 
  (.mk (some 6) none (.pure (.mv (.t 32))))]) .ret) .skip)) (.seq (.ops [
  (.mk (some 7) none (.pure (.mv (.c (.i .i64 0)))))]) (.seq (.seq (.ops [
  (.mk (some 8) none (.pure (.mv (.c (.i .i64 1)))))]) (.block 0 (.loop (.seq (.seq (.ops [
  (.mk (some 33) none (.pure (.mv (.t 8)))), 
  (.mk (some 34) none (.pure (.mv (.t 1)))), 
  (.mk (some 35) none (.pure (.bin .leq (.t 33) (.t 34)))), 
  (.mk (some 36) none (.pure (.mv (.t 35)))), 
  (.mk (some 37) (some (36, true)) (.pure (.mv (.t 7)))), 
  (.mk (some 38) (some (36, true)) (.pure (.bin .eql (.t 37) (.c (.i .i64 0))))), 
  (.mk (some 39) none (.pure (.pick (.t 36) (.t 38) (.c (.b false)))))]) (.cond (.t 39) .skip (.exit 0))) (.seq (.block 1 (.seq (.ops [
  (.mk (some 42) none (.pure (.mv (.t 0)))), 
  (.mk (some 43) none (.pure (.mv (.t 8)))), 
  (.mk (some 44) none (.pure (.bin .sub (.t 42) (.t 43)))), 
  (.mk (some 45) none (.pure (.mv (.t 8)))), 
  (.mk (some 46) none (.pure (.bin .mul (.c (.i .i64 2)) (.t 45)))), 
  (.mk (some 47) none (.pure (.mv (.t 2)))), 
  (.mk (some 48) none (.call 49 [(.t 44), (.t 46), (.t 47)])), 
  (.mk (some 49) none (.pure (.bin .eql (.t 48) (.c (.i .i64 0)))))]) (.cond (.t 49) (.ops [
  (.mk (some 50) none (.pure (.mv (.t 8)))), 
  (.mk (some 7) none (.pure (.mv (.t 50))))]) .skip))) (.ops [
  (.mk (some 40) none (.pure (.mv (.t 8)))), 
  (.mk (some 41) none (.pure (.bin .add (.t 40) (.c (.i .i64 1))))), 
  (.mk (some 8) none (.pure (.mv (.t 41))))])))))) (.seq (.ops [
  (.mk (some 51) none (.pure (.mv (.t 2)))), 
  (.mk (some 52) none (.pure (.mv (.t 0)))), 
  (.mk (some 53) none (.pure (.ixS 1 (.t 51) (.t 52)))), 
  (.mk (some 54) none (.ld true 1 (.t 53))), 
  (.mk (some 55) none (.pure (.mv (.t 1)))), 
  (.mk (some 56) none (.pure (.mv (.t 7)))), 
  (.mk (some 57) none (.pure (.ixS 1 (.t 54) (.t 55)))), 
  (.mk none none (.st 1 (.t 57) (.t 56)))]) (.seq (.ops [
  (.mk (some 58) none (.pure (.mv (.t 7)))), 
  (.mk (some 6) none (.pure (.mv (.t 58))))]) .ret)))))))))
def fn51 : AFn := (AFn.mk 18 [(.t 2)] (.seq (.ops [
  (.mk (some 2) none (.pure (.mv (.c (.b false)))))]) (.seq (.seq (.ops [
  (.mk (some 5) none (.pure (.mv (.t 0)))), 
  (.mk (some 6) none (.pure (.len false (.t 5)))), 
  (.mk (some 7) none (.pure (.mv (.c (.i .i64 0)))))]) (.block 0 (.loop (.seq (.ops [
  (.mk (some 8) none (.pure (.bin .lss (.t 7) (.t 6))))]) (.seq (.cond (.t 8) .skip (.exit 0)) (.seq (.block 1 (.seq (.ops [
  (.mk (some 9) none (.pure (.ixS 1 (.t 5) (.t 7)))), 
  (.mk (some 10) none (.ld true 1 (.t 9))), 
  (.mk (some 4) none (.pure (.mv (.t 10))))]) (.seq (.ops [
  (.mk (some 11) none (.pure (.mv (.t 4)))), 
  (.mk (some 12) none (.pure (.bin .lss (.t 11) (.c (.i .i64 0))))), 
  (.mk (some 13) none (.pure (.mv (.t 12)))), 
  (.mk (some 14) (some (13, false)) (.pure (.mv (.t 4)))), 
  (.mk (some 15) (some (13, false)) (.pure (.bin .gtr (.t 14) (.c (.i .i64 1152921504606846976))))), 
  (.mk (some 16) none (.pure (.pick (.t 13) (.c (.b true)) (.t 15))))]) (.cond (.t 16) (.seq (.ops [
  (.mk (some 2) none (.pure (.mv (.c (.b false)))))]) .ret) .skip)))) (.ops [
  (.mk (some 17) none (.pure (.bin .add (.t 7) (.c (.i .i64 1))))), 
  (.mk (some 7) none (.pure (.mv (.t 17))))]))))))) (.seq (.ops [
  (.mk (some 2) none (.pure (.mv (.c (.b true)))))]) .ret))))
def fn52 : AFn := (AFn.mk 35 [(.t 2)] (.seq (.ops [
  (.mk (some 2) none (.pure (.mv (.c (.s [])))))]) (.seq (.seq (.ops [
  (.mk (some 8) none (.pure (.mv (.t 0)))), 
  (.mk (some 9) none (.pure (.bin .eql (.t 8) (.c (.i .i64 0)))))]) (.cond (.t 9) (.seq (.ops [
  (.mk (some 2) none (.pure (.mv (.c (.s [48])))))]) .ret) .skip)) (.seq (.ops [
  (.mk (some 10) none (.pure (.mv (.t 0)))), 
  (.mk (some 11) none (.call 60 [(.t 10)])), 
  (.mk (some 3) none (.pure (.mv (.t 11))))]) (.seq (.ops [
  (.mk (some 12) none (.pure (.mv (.t 3)))), 
  (.mk (some 13) none (.pure (.ixS 1 (.t 12) (.c (.i .i64 0))))), 
  (.mk (some 14) none (.ld true 1 (.t 13))), 
  (.mk (some 4) none (.pure (.mv (.t 14))))]) (.seq (.ops [
  (.mk (some 15) none (.bsl 5 1 [(.i .u8 0)] 1 [((0, 1), (.c (.i .u8 48)))])), 
  (.mk (some 16) none (.mks (.t 15))), 
  (.mk (some 17) none (.pure (.mv (.t 4)))), 
  (.mk (some 18) none (.pure (.bin .sub (.t 17) (.c (.i .i64 2))))), 
  (.mk (some 19) none (.pure (.bin .add (.t 18) (.c (.i .i64 1))))), 
  (.mk (some 20) none (.call 73 [(.t 16), (.t 19)])), 
  (.mk (some 5) none (.pure (.mv (.t 20))))]) (.seq (.seq (.ops [
  (.mk (some 21) none (.pure (.mv (.t 3)))), 
  (.mk (some 22) none (.pure (.len false (.t 21)))), 
  (.mk (some 23) none (.pure (.mv (.c (.i .i64 0)))))]) (.block 0 (.loop (.seq (.ops [
  (.mk (some 24) none (.pure (.bin .lss (.t 23) (.t 22))))]) (.seq (.cond (.t 24) .skip (.exit 0)) (.seq (.block 1 (.seq (.ops [
  (.mk (some 25) none (.pure (.ixS 1 (.t 21) (.t 23)))), 
  (.mk (some 26) none (.ld true 1 (.t 25))), 
  (.mk (some 7) none (.pure (.mv (.t 26))))]) (.ops [
  (.mk (some 27) none (.pure (.mv (.t 5)))), 
  (.mk (some 28) none (.pure (.mv (.t 4)))), 
  (.mk (some 29) none (.pure (.mv (.t 7)))), 
  (.mk (some 30) none (.pure (.bin .sub (.t 28) (.t 29)))), 
  (.mk (some 31) none (.pure (.ixS 1 (.t 27) (.t 30)))), 
  (.mk none none (.st 1 (.t 31) (.c (.i .u8 49))))]))) (.ops [
  (.mk (some 32) none (.pure (.bin .add (.t 23) (.c (.i .i64 1))))), 
  (.mk (some 23) none (.pure (.mv (.t 32))))]))))))) (.seq (.ops [
  (.mk (some 33) none (.pure (.mv (.t 5)))), 
  (.mk (some 34) none (.bts (.t 33))), 
  (.mk (some 2) none (.pure (.mv (.t 34))))]) .ret))))))))
def fn55 : AFn := (AFn.mk 32 [(.t 2)] (.seq (.ops [
  (.mk (some 2) none (.pure (.mv (.c (.b false)))))]) (.seq (.ops [
  (.mk (some 3) none (.pure (.mv (.c (.i .i32 48)))))]) (.seq (.seq (.ops [
  (.mk (some 6) none (.pure (.mv (.t 0)))), 
  (.mk (some 7) none (.rgs (.t 6)))]) (.block 0 (.loop (.seq (.ops [
  (.mk (some 8) none (.nxs (.t 7))), 
  (.mk (some 9) none (.pure (.ext 0 (.t 8))))]) (.seq (.cond (.t 9) .skip (.exit 0)) (.block 1 (.seq (.ops [
  (.mk (some 10) none (.pure (.ext 2 (.t 8)))), 
  (.mk (some 5) none (.pure (.mv (.t 10))))]) (.seq (.seq (.ops [
  (.mk (some 11) none (.pure (.mv (.t 5)))), 
  (.mk (some 12) none (.pure (.bin .neq (.t 11) (.c (.i .i32 48))))), 
  (.mk (some 13) none (.pure (.mv (.t 12)))), 
  (.mk (some 14) (some (13, true)) (.pure (.mv (.t 5)))), 
  (.mk (some 15) (some (13, true)) (.pure (.bin .neq (.t 14) (.c (.i .i32 49))))), 
  (.mk (some 16) none (.pure (.pick (.t 13) (.t 15) (.c (.b false))))), 
  (.mk (some 17) none (.pure (.mv (.t 16)))), 
  (.mk (some 18) (some (17, false)) (.pure (.mv (.t 5)))), 
  (.mk (some 19) (some (17, false)) (.pure (.bin .eql (.t 18) (.c (.i .i32 49))))), 
  (.mk (some 20) (some (17, false)) (.pure (.mv (.t 19)))), 
  (.mk (some 21) (some (20, true)) (.pure (.mv (.t 3)))), 
  (.mk (some 22) (some (20, true)) (.pure (.bin .eql (.t 21) (.c (.i .i32 49))))), 
  (.mk (some 23) (some (17, false)) (.pure (.pick (.t 20) (.t 22) (.c (.b false))))), 
  (.mk (some 24) none (.pure (.pick (.t 17) (.c (.b true)) (.t 23))))]) (.cond (.t 24) (.seq (.ops [
  (.mk (some 2) none (.pure (.mv (.c (.b false)))))]) .ret) .skip)) (.ops [
  (.mk (some 25) none (.pure (.mv (.t 5)))), 
  (.mk (some 3) none (.pure (.mv (.t 25))))]))))))))) (.seq (.ops [
  (.mk (some 26) none (.pure (.mv (.t 0)))), 
  (.mk (some 27) none (.pure (.sbin .eql (.t 26) (.c (.s [48]))))), 
  (.mk (some 28) none (.pure (.mv (.t 27)))), 
  (.mk (some 29) (some (28, false)) (.pure (.mv (.t 0)))), 
  (.mk (some 30) (some (28, false)) (.call 74 [(.t 29), (.c (.s [49]))])), 
  (.mk (some 31) none (.pure (.pick (.t 28) (.c (.b true)) (.t 30)))), 
  (.mk (some 2) none (.pure (.mv (.t 31))))]) .ret)))))
def fn56 : AFn := (AFn.mk 30 [(.t 2)] (.seq (.ops [
  (.mk (some 2) none (.pure (.mv (.c (.i .i64 0)))))]) (.seq (.ops [
  (.mk (some 3) none (.pure (.mv (.c (.i .i64 0)))))]) (.seq (.seq (.ops [
  (.mk (some 7) none (.pure (.mv (.t 0)))), 
  (.mk (some 8) none (.rgs (.t 7)))]) (.block 0 (.loop (.seq (.ops [
  (.mk (some 9) none (.nxs (.t 8))), 
  (.mk (some 10) none (.pure (.ext 0 (.t 9))))]) (.seq (.cond (.t 10) .skip (.exit 0)) (.block 1 (.seq (.ops [
  (.mk (some 11) none (.pure (.ext 1 (.t 9)))), 
  (.mk (some 12) none (.pure (.ext 2 (.t 9)))), 
  (.mk (some 4) none (.pure (.mv (.t 11)))), 
  (.mk (some 5) none (.pure (.mv (.t 12))))]) (.seq (.ops [
  (.mk (some 13) none (.pure (.mv (.t 0)))), 
  (.mk (some 14) none (.pure (.len true (.t 13)))), 
  (.mk (some 15) none (.pure (.bin .sub (.t 14) (.c (.i .i64 1))))), 
  (.mk (some 16) none (.pure (.mv (.t 4)))), 
  (.mk (some 17) none (.pure (.bin .sub (.t 15) (.t 16)))), 
  (.mk (some 18) none (.pure (.bin .add (.t 17) (.c (.i .i64 2))))), 
  (.mk (some 19) none (.call 71 [(.t 18)])), 
  (.mk (some 6) none (.pure (.mv (.t 19))))]) (.seq (.ops [
  (.mk (some 20) none (.pure (.mv (.t 5)))), 
  (.mk (some 21) none (.pure (.bin .sub (.t 20) (.c (.i .i32 48))))), 
  (.mk (some 22) none (.pure (.mv (.c (.i .i32 0)))))]) (.block 2 (.loop (.seq (.ops [
  (.mk (some 23) none (.pure (.bin .lss (.t 22) (.t 21))))]) (.seq (.cond (.t 23) .skip (.exit 2)) (.seq (.block 3 (.ops [
  (.mk (some 24) none (.pure (.mv (.t 3)))), 
  (.mk (some 25) none (.pure (.mv (.t 6)))), 
  (.mk (some 26) none (.pure (.bin .add (.t 24) (.t 25)))), 
  (.mk (some 27) none (.pure (.mx false (.t 26) (.c (.i .i64 1152921504606846977))))), 
  (.mk (some 3) none (.pure (.mv (.t 27))))])) (.ops [
  (.mk (some 28) none (.pure (.bin .add (.t 22) (.c (.i .i32 1))))), 
  (.mk (some 22) none (.pure (.mv (.t 28))))]))))))))))))))) (.seq (.ops [
  (.mk (some 29) none (.pure (.mv (.t 3)))), 
  (.mk (some 2) none (.pure (.mv (.t 29))))]) .ret)))))
def fn59 : AFn := (AFn.mk 4 [(.t 2)] (.seq (.ops [
  (.mk (some 1) none (.bx 50 1 (.t 0))), 
  (.mk (some 2) none (.pure (.mv (.c .nfn))))]) (.seq (.ops [
  (.mk (some 3) none (.pure (.mkfn 75 [] [(.t 1)]))), 
  (.mk (some 2) none (.pure (.mv (.t 3))))]) .ret)))
def fn60 : AFn := (AFn.mk 28 [(.t 2)] (.seq (.ops [
  (.mk (some 2) none (.pure (.mv (.c .nsl))))]) (.seq (.ops [
  (.mk (some 3) none (.pure (.mv (.c .nsl))))]) (.seq (.ops [
  (.mk (some 7) none (.call 71 [(.c (.i .i64 88))])), 
  (.mk (some 8) none (.call 71 [(.c (.i .i64 87))])), 
  (.mk (some 4) none (.pure (.mv (.t 7)))), 
  (.mk (some 5) none (.pure (.mv (.t 8))))]) (.seq (.seq (.ops [
  (.mk (some 6) none (.pure (.mv (.c (.i .i64 88)))))]) (.block 0 (.loop (.seq (.seq (.ops [
  (.mk (some 9) none (.pure (.mv (.t 0)))), 
  (.mk (some 10) none (.pure (.bin .gtr (.t 9) (.c (.i .i64 0)))))]) (.cond (.t 10) .skip (.exit 0))) (.seq (.block 1 (.seq (.seq (.ops [
  (.mk (some 13) none (.pure (.mv (.t 4)))), 
  (.mk (some 14) none (.pure (.mv (.t 0)))), 
  (.mk (some 15) none (.pure (.bin .leq (.t 13) (.t 14))))]) (.cond (.t 15) (.seq (.ops [
  (.mk (some 16) none (.pure (.mv (.t 3)))), 
  (.mk (some 17) none (.pure (.mv (.t 6)))), 
  (.mk (some 18) none (.bsl 3 1 [(.i .i64 0)] 1 [((0, 1), (.t 17))])), 
  (.mk (some 19) none (.app 3 1 8 [(.i .i64 0)] (.t 16) (.t 18))), 
  (.mk (some 3) none (.pure (.mv (.t 19))))]) (.ops [
  (.mk (some 20) none (.pure (.mv (.t 0)))), 
  (.mk (some 21) none (.pure (.mv (.t 4)))), 
  (.mk (some 22) none (.pure (.bin .sub (.t 20) (.t 21)))), 
  (.mk (some 0) none (.pure (.mv (.t 22))))])) .skip)) (.ops [
  (.mk (some 23) none (.pure (.mv (.t 5)))), 
  (.mk (some 24) none (.pure (.mv (.t 4)))), 
  (.mk (some 25) none (.pure (.mv (.t 5)))), 
  (.mk (some 26) none (.pure (.bin .sub (.t 24) (.t 25)))), 
  (.mk (some 4) none (.pure (.mv (.t 23)))), 
  (.mk (some 5) none (.pure (.mv (.t 26))))]))) (.ops [
  (.mk (some 11) none (.pure (.mv (.t 6)))), 
  (.mk (some 12) none (.pure (.bin .sub (.t 11) (.c (.i .i64 1))))), 
  (.mk (some 6) none (.pure (.mv (.t 12))))])))))) (.seq (.ops [
  (.mk (some 27) none (.pure (.mv (.t 3)))), 
  (.mk (some 2) none (.pure (.mv (.t 27))))]) .ret))))))
def fn63 : AFn := (AFn.mk 24 [(.t 4)] (.seq (.ops [
  (.mk (some 4) none (.pure (.mv (.c (.i .i64 0)))))]) (.seq (.ops [
  (.mk (some 5) none (.pure (.mv (.c (.i .i64 0)))))]) (.seq (.seq (.ops [
  (.mk (some 8) none (.pure (.mv (.t 0)))), 
  (.mk (some 9) none (.call 60 [(.t 8)])), 
  (.mk (some 10) none (.pure (.len false (.t 9)))), 
  (.mk (some 11) none (.pure (.mv (.c (.i .i64 0)))))]) (.block 0 (.loop (.seq (.ops [
  (.mk (some 12) none (.pure (.bin .lss (.t 11) (.t 10))))]) (.seq (.cond (.t 12) .skip (.exit 0)) (.seq (.block 1 (.seq (.ops [
  (.mk (some 13) none (.pure (.ixS 1 (.t 9) (.t 11)))), 
  (.mk (some 14) none (.ld true 1 (.t 13))), 
  (.mk (some 7) none (.pure (.mv (.t 14))))]) (.ops [
  (.mk (some 15) none (.pure (.mv (.t 5)))), 
  (.mk (some 16) none (.pure (.mv (.t 7)))), 
  (.mk (some 17) none (.pure (.mv (.t 1)))), 
  (.mk (some 18) none (.pure (.bin .add (.t 16) (.t 17)))), 
  (.mk (some 19) none (.call 71 [(.t 18)])), 
  (.mk (some 20) none (.pure (.bin .add (.t 15) (.t 19)))), 
  (.mk (some 21) none (.pure (.mx false (.t 20) (.c (.i .i64 1152921504606846977))))), 
  (.mk (some 5) none (.pure (.mv (.t 21))))]))) (.ops [
  (.mk (some 22) none (.pure (.bin .add (.t 11) (.c (.i .i64 1))))), 
  (.mk (some 11) none (.pure (.mv (.t 22))))]))))))) (.seq (.ops [
  (.mk (some 23) none (.pure (.mv (.t 5)))), 
  (.mk (some 4) none (.pure (.mv (.t 23))))]) .ret)))))
def fn66 : AFn := (AFn.mk 9 [(.t 2)] (.seq (.ops [
  (.mk (some 2) none (.pure (.mv (.c (.i .i64 0)))))]) (.seq (.seq (.ops [
  (.mk (some 3) none (.pure (.mv (.t 0)))), 
  (.mk (some 4) none (.pure (.bin .eql (.t 3) (.c (.i .i64 0)))))]) (.cond (.t 4) (.seq (.ops [
  (.mk (some 2) none (.pure (.mv (.c (.i .i64 0)))))]) .ret) .skip)) (.seq (.ops [
  (.mk (some 5) none (.pure (.mv (.t 0)))), 
  (.mk (some 6) none (.pure (.bin .sub (.t 5) (.c (.i .i64 1))))), 
  (.mk (some 7) none (.call 63 [(.t 6), (.c (.i .i64 1))])), 
  (.mk (some 8) none (.pure (.bin .add (.t 7) (.c (.i .i64 1))))), 
  (.mk (some 2) none (.pure (.mv (.t 8))))]) .ret))))
def fn68 : AFn := (AFn.mk 16 [(.t 2)] (.seq (.ops [
  (.mk (some 2) none (.pure (.mv (.c (.i .i64 0)))))]) (.seq (.seq (.ops [
  (.mk (some 4) none (.pure (.mv (.t 0)))), 
  (.mk (some 5) none (.pure (.bin .eql (.t 4) (.c (.i .i64 0)))))]) (.cond (.t 5) (.seq (.ops [
  (.mk (some 2) none (.pure (.mv (.c (.i .i64 0)))))]) .ret) .skip)) (.seq (.seq (.ops [
  (.mk (some 6) none (.pure (.mv (.t 0)))), 
  (.mk (some 7) none (.call 72 [(.t 6)])), 
  (.mk (some 8) none (.pure (.bin .sub (.t 7) (.c (.i .i64 2))))), 
  (.mk (some 3) none (.pure (.mv (.t 8))))]) (.seq (.ops [
  (.mk (some 9) none (.pure (.mv (.t 3)))), 
  (.mk (some 10) none (.pure (.bin .rem (.t 9) (.c (.i .i64 2))))), 
  (.mk (some 11) none (.pure (.bin .eql (.t 10) (.c (.i .i64 0)))))]) (.cond (.t 11) (.seq (.ops [
  (.mk (some 12) none (.pure (.mv (.t 0)))), 
  (.mk (some 13) none (.call 63 [(.t 12), (.c (.i .i64 1))])), 
  (.mk (some 2) none (.pure (.mv (.t 13))))]) .ret) .skip))) (.seq (.ops [
  (.mk (some 14) none (.pure (.mv (.t 0)))), 
  (.mk (some 15) none (.call 63 [(.t 14), (.c (.i .i64 (-1)))])), 
  (.mk (some 2) none (.pure (.mv (.t 15))))]) .ret)))))
def fn71 : AFn := (AFn.mk 25 [(.t 2)] (.seq (.ops [
  (.mk (some 2) none (.pure (.mv (.c (.i .i64 0)))))]) (.seq (.ops [
  (.mk (some 3) none (.pure (.mv (.c (.i .i64 0))))), 
  (.mk (some 4) none (.pure (.mv (.c (.i .i64 1)))))]) (.seq (.seq (.ops [
  (.mk (some 5) none (.pure (.mv (.t 0)))), 
  (.mk (some 6) none (.pure (.mx false (.t 5) (.c (.i .i64 89))))), 
  (.mk (some 7) none (.pure (.mv (.c (.i .i64 0)))))]) (.block 0 (.loop (.seq (.ops [
  (.mk (some 8) none (.pure (.bin .lss (.t 7) (.t 6))))]) (.seq (.cond (.t 8) .skip (.exit 0)) (.seq (.block 1 (.ops [
  (.mk (some 9) none (.pure (.mv (.t 4)))), 
  (.mk (some 10) none (.pure (.mv (.t 3)))), 
  (.mk (some 11) none (.pure (.mv (.t 4)))), 
  (.mk (some 12) none (.pure (.bin .add (.t 10) (.t 11)))), 
  (.mk (some 13) none (.pure (.mx false (.t 12) (.c (.i .i64 1152921504606846977))))), 
  (.mk (some 3) none (.pure (.mv (.t 9)))), 
  (.mk (some 4) none (.pure (.mv (.t 13))))])) (.ops [
  (.mk (some 14) none (.pure (.bin .add (.t 7) (.c (.i .i64 1))))), 
  (.mk (some 7) none (.pure (.mv (.t 14))))]))))))) (.seq (.seq (.ops [
  (.mk (some 15) none (.pure (.mv (.t 0)))), 
  (.mk (some 16) none (.pure (.neg (.t 15)))), 
  (.mk (some 17) none (.pure (.mv (.c (.i .i64 0)))))]) (.block 2 (.loop (.seq (.ops [
  (.mk (some 18) none (.pure (.bin .lss (.t 17) (.t 16))))]) (.seq (.cond (.t 18) .skip (.exit 2)) (.seq (.block 3 (.ops [
  (.mk (some 19) none (.pure (.mv (.t 4)))), 
  (.mk (some 20) none (.pure (.mv (.t 3)))), 
  (.mk (some 21) none (.pure (.bin .sub (.t 19) (.t 20)))), 
  (.mk (some 22) none (.pure (.mv (.t 3)))), 
  (.mk (some 3) none (.pure (.mv (.t 21)))), 
  (.mk (some 4) none (.pure (.mv (.t 22))))])) (.ops [
  (.mk (some 23) none (.pure (.bin .add (.t 17) (.c (.i .i64 1))))), 
  (.mk (some 17) none (.pure (.mv (.t 23))))]))))))) (.seq (.ops [
  (.mk (some 24) none (.pure (.mv (.t 3)))), 
  (.mk (some 2) none (.pure (.mv (.t 24))))]) .ret))))))
def fn72 : AFn := (AFn.mk 12 [(.t 2)] (.seq (.ops [
  (.mk (some 2) none (.pure (.mv (.c (.i .i64 0)))))]) (.seq (.ops [
  (.mk (some 4) none (.pure (.mv (.t 0)))), 
  (.mk (some 5) none (.call 60 [(.t 4)])), 
  (.mk (some 3) none (.pure (.mv (.t 5))))]) (.seq (.ops [
  (.mk (some 6) none (.pure (.mv (.t 3)))), 
  (.mk (some 7) none (.pure (.mv (.t 3)))), 
  (.mk (some 8) none (.pure (.len false (.t 7)))), 
  (.mk (some 9) none (.pure (.bin .sub (.t 8) (.c (.i .i64 1))))), 
  (.mk (some 10) none (.pure (.ixS 1 (.t 6) (.t 9)))), 
  (.mk (some 11) none (.ld true 1 (.t 10))), 
  (.mk (some 2) none (.pure (.mv (.t 11))))]) .ret))))
def fn73 : AFn := (AFn.mk 77 [(.t 4)] (.seq (.ops [
  (.mk (some 4) none (.pure (.mv (.c .nsl))))]) (.seq (.seq (.ops [
  (.mk (some 12) none (.pure (.mv (.t 1)))), 
  (.mk (some 13) none (.pure (.bin .eql (.t 12) (.c (.i .i64 0)))))]) (.cond (.t 13) (.seq (.ops [
  (.mk (some 14) none (.bsl 5 1 [(.i .u8 0)] 0 [])), 
  (.mk (some 4) none (.pure (.mv (.t 14))))]) .ret) .skip)) (.seq (.seq (.ops [
  (.mk (some 15) none (.pure (.mv (.t 1)))), 
  (.mk (some 16) none (.pure (.bin .lss (.t 15) (.c (.i .i64 0)))))]) (.cond (.t 16) (.ops [
  (.mk none none (.ld true 1 (.c (.b true))))]) .skip)) (.seq (.ops [
  (.mk (some 19) none (.pure (.mv (.t 0)))), 
  (.mk (some 20) none (.pure (.len false (.t 19)))), 
  (.mk (some 21) none (.pure (.conv .u64 (.t 20)))), 
  (.mk (some 22) none (.pure (.mv (.t 1)))), 
  (.mk (some 23) none (.pure (.conv .u64 (.t 22)))), 
  (.mk (some 24) none (.call 78 [(.t 21), (.t 23)])), 
  (.mk (some 18) none (.pure (.mv (.t 24)))), 
  (.mk (some 25) none (.pure (.ext 0 (.t 18)))), 
  (.mk (some 26) none (.pure (.ext 1 (.t 18)))), 
  (.mk (some 5) none (.pure (.mv (.t 25)))), 
  (.mk (some 6) none (.pure (.mv (.t 26))))]) (.seq (.seq (.ops [
  (.mk (some 27) none (.pure (.mv (.t 5)))), 
  (.mk (some 28) none (.pure (.bin .gtr (.t 27) (.c (.i .u64 0))))), 
  (.mk (some 29) none (.pure (.mv (.t 28)))), 
  (.mk (some 30) (some (29, false)) (.pure (.mv (.t 6)))), 
  (.mk (some 31) (some (29, false)) (.pure (.bin .gtr (.t 30) (.c (.i .u64 9223372036854775807))))), 
  (.mk (some 32) none (.pure (.pick (.t 29) (.c (.b true)) (.t 31))))]) (.cond (.t 32) (.ops [
  (.mk none none (.ld true 1 (.c (.b true))))]) .skip)) (.seq (.ops [
  (.mk (some 34) none (.pure (.mv (.t 6)))), 
  (.mk (some 35) none (.pure (.conv .i64 (.t 34)))), 
  (.mk (some 7) none (.pure (.mv (.t 35))))]) (.seq (.seq (.ops [
  (.mk (some 36) none (.pure (.mv (.t 0)))), 
  (.mk (some 37) none (.pure (.len false (.t 36)))), 
  (.mk (some 38) none (.pure (.bin .eql (.t 37) (.c (.i .i64 0)))))]) (.cond (.t 38) (.seq (.ops [
  (.mk (some 39) none (.bsl 5 1 [(.i .u8 0)] 0 [])), 
  (.mk (some 4) none (.pure (.mv (.t 39))))]) .ret) .skip)) (.seq (.ops [
  (.mk (some 40) none (.pure (.mv (.t 7)))), 
  (.mk (some 8) none (.pure (.mv (.t 40))))]) (.seq (.seq (.ops [
  (.mk (some 41) none (.pure (.mv (.t 8)))), 
  (.mk (some 42) none (.pure (.bin .gtr (.t 41) (.c (.i .i64 8192)))))]) (.cond (.t 42) (.seq (.ops [
  (.mk (some 43) none (.pure (.mv (.t 0)))), 
  (.mk (some 44) none (.pure (.len false (.t 43)))), 
  (.mk (some 45) none (.pure (.bin .quo (.c (.i .i64 8192)) (.t 44)))), 
  (.mk (some 46) none (.pure (.mv (.t 0)))), 
  (.mk (some 47) none (.pure (.len false (.t 46)))), 
  (.mk (some 48) none (.pure (.bin .mul (.t 45) (.t 47)))), 
  (.mk (some 8) none (.pure (.mv (.t 48))))]) (.seq (.ops [
  (.mk (some 49) none (.pure (.mv (.t 8)))), 
  (.mk (some 50) none (.pure (.bin .eql (.t 49) (.c (.i .i64 0)))))]) (.cond (.t 50) (.ops [
  (.mk (some 51) none (.pure (.mv (.t 0)))), 
  (.mk (some 52) none (.pure (.len false (.t 51)))), 
  (.mk (some 8) none (.pure (.mv (.t 52))))]) .skip))) .skip)) (.seq (.ops [
  (.mk (some 53) none (.pure (.mv (.t 7)))), 
  (.mk (some 54) none (.mnz 5 (.t 53))), 
  (.mk (some 55) none (.pure (.mv (.t 7)))), 
  (.mk (some 56) none (.pure (.mv (.t 7)))), 
  (.mk (some 57) none (.pure (.slS 1 (.t 54) none (some (.t 55)) (some (.t 56))))), 
  (.mk (some 9) none (.pure (.mv (.t 57))))]) (.seq (.ops [
  (.mk (some 58) none (.pure (.mv (.t 9)))), 
  (.mk (some 59) none (.pure (.mv (.t 0)))), 
  (.mk (some 60) none (.cpy 1 (.t 58) (.t 59))), 
  (.mk (some 10) none (.pure (.mv (.t 60))))]) (.seq (.block 0 (.loop (.seq (.seq (.ops [
  (.mk (some 61) none (.pure (.mv (.t 10)))), 
  (.mk (some 62) none (.pure (.mv (.t 7)))), 
  (.mk (some 63) none (.pure (.bin .lss (.t 61) (.t 62))))]) (.cond (.t 63) .skip (.exit 0))) (.block 1 (.seq (.ops [
  (.mk (some 64) none (.pure (.mv (.t 10)))), 
  (.mk (some 65) none (.pure (.mv (.t 8)))), 
  (.mk (some 66) none (.pure (.mx false (.t 64) (.t 65)))), 
  (.mk (some 11) none (.pure (.mv (.t 66))))]) (.ops [
  (.mk (some 67) none (.pure (.mv (.t 10)))), 
  (.mk (some 68) none (.pure (.mv (.t 9)))), 
  (.mk (some 69) none (.pure (.mv (.t 10)))), 
  (.mk (some 70) none (.pure (.slS 1 (.t 68) (some (.t 69)) none none))), 
  (.mk (some 71) none (.pure (.mv (.t 9)))), 
  (.mk (some 72) none (.pure (.mv (.t 11)))), 
  (.mk (some 73) none (.pure (.slS 1 (.t 71) none (some (.t 72)) none))), 
  (.mk (some 74) none (.cpy 1 (.t 70) (.t 73))), 
  (.mk (some 75) none (.pure (.bin .add (.t 67) (.t 74)))), 
  (.mk (some 10) none (.pure (.mv (.t 75))))])))))) (.seq (.ops [
  (.mk (some 76) none (.pure (.mv (.t 9)))), 
  (.mk (some 4) none (.pure (.mv (.t 76))))]) .ret))))))))))))))
def fn74 : AFn := (AFn.mk 8 [(.t 4)] (.seq (.ops [
  (.mk (some 4) none (.pure (.mv (.c (.b false)))))]) (.seq (.ops [
  (.mk (some 5) none (.pure (.mv (.t 0)))), 
  (.mk (some 6) none (.pure (.mv (.t 1)))), 
  (.mk (some 7) none (.call 80 [(.t 5), (.t 6)])), 
  (.mk (some 4) none (.pure (.mv (.t 7))))]) .ret)))
def fn75 : AFn := (AFn.mk 19 [] (.seq (.ops [
  (.mk (some 4) none (.ld true 1 (.t 1))), 
  (.mk (some 5) none (.pure (.len false (.t 4)))), 
  (.mk (some 6) none (.pure (.bin .sub (.t 5) (.c (.i .i64 1))))), 
  (.mk (some 3) none (.pure (.mv (.t 6))))]) (.block 0 (.loop (.seq (.seq (.ops [
  (.mk (some 7) none (.pure (.mv (.t 3)))), 
  (.mk (some 8) none (.pure (.bin .geq (.t 7) (.c (.i .i64 0)))))]) (.cond (.t 8) .skip (.exit 0))) (.seq (.block 1 (.seq (.opsY [
  (.mk (some 11) none (.pure (.mv (.t 0)))), 
  (.mk (some 12) none (.pure (.mv (.t 3)))), 
  (.mk (some 13) none (.ld true 1 (.t 1))), 
  (.mk (some 14) none (.pure (.mv (.t 3)))), 
  (.mk (some 15) none (.pure (.ixS 1 (.t 13) (.t 14)))), 
  (.mk (some 16) none (.ld true 1 (.t 15))), 
  (.mk (some 17) none (.callv (.t 11) [(.t 12), (.t 16)])), 
  (.mk (some 18) none (.pure (.not (.t 17))))]) (.cond (.t 18) .ret .skip))) (.ops [
  (.mk (some 9) none (.pure (.mv (.t 3)))), 
  (.mk (some 10) none (.pure (.bin .sub (.t 9) (.c (.i .i64 1))))), 
  (.mk (some 3) none (.pure (.mv (.t 10))))])))))))
def fn78 : AFn := (AFn.mk 30 [(.t 4), (.t 5)] (.seq (.ops [
  (.mk (some 4) none (.pure (.mv (.c (.i .u64 0))))), 
  (.mk (some 5) none (.pure (.mv (.c (.i .u64 0)))))]) (.seq (.cond (.c (.b false)) (.seq (.ops [
  (.mk (some 11) none (.pure (.mv (.t 0)))), 
  (.mk (some 12) none (.pure (.conv .u32 (.t 11)))), 
  (.mk (some 13) none (.pure (.mv (.t 1)))), 
  (.mk (some 14) none (.pure (.conv .u32 (.t 13)))), 
  (.mk (some 15) none (.call 85 [(.t 12), (.t 14)])), 
  (.mk (some 10) none (.pure (.mv (.t 15)))), 
  (.mk (some 16) none (.pure (.ext 0 (.t 10)))), 
  (.mk (some 17) none (.pure (.ext 1 (.t 10)))), 
  (.mk (some 6) none (.pure (.mv (.t 16)))), 
  (.mk (some 7) none (.pure (.mv (.t 17))))]) (.seq (.ops [
  (.mk (some 18) none (.pure (.mv (.t 6)))), 
  (.mk (some 19) none (.pure (.conv .u64 (.t 18)))), 
  (.mk (some 20) none (.pure (.mv (.t 7)))), 
  (.mk (some 21) none (.pure (.conv .u64 (.t 20)))), 
  (.mk (some 4) none (.pure (.mv (.t 19)))), 
  (.mk (some 5) none (.pure (.mv (.t 21))))]) .ret)) .skip) (.seq (.ops [
  (.mk (some 23) none (.pure (.mv (.t 0)))), 
  (.mk (some 24) none (.pure (.mv (.t 1)))), 
  (.mk (some 25) none (.call 86 [(.t 23), (.t 24)])), 
  (.mk (some 22) none (.pure (.mv (.t 25)))), 
  (.mk (some 26) none (.pure (.ext 0 (.t 22)))), 
  (.mk (some 27) none (.pure (.ext 1 (.t 22)))), 
  (.mk (some 8) none (.pure (.mv (.t 26)))), 
  (.mk (some 9) none (.pure (.mv (.t 27))))]) (.seq (.ops [
  (.mk (some 28) none (.pure (.mv (.t 8)))), 
  (.mk (some 29) none (.pure (.mv (.t 9)))), 
  (.mk (some 4) none (.pure (.mv (.t 28)))), 
  (.mk (some 5) none (.pure (.mv (.t 29))))]) .ret)))))
def fn80 : AFn := (AFn.mk 18 [(.t 4)] (.seq (.ops [
  (.mk (some 4) none (.pure (.mv (.c (.b false)))))]) (.seq (.ops [
  (.mk (some 5) none (.pure (.mv (.t 0)))), 
  (.mk (some 6) none (.pure (.len true (.t 5)))), 
  (.mk (some 7) none (.pure (.mv (.t 1)))), 
  (.mk (some 8) none (.pure (.len true (.t 7)))), 
  (.mk (some 9) none (.pure (.bin .geq (.t 6) (.t 8)))), 
  (.mk (some 10) none (.pure (.mv (.t 9)))), 
  (.mk (some 11) (some (10, true)) (.pure (.mv (.t 0)))), 
  (.mk (some 12) (some (10, true)) (.pure (.mv (.t 1)))), 
  (.mk (some 13) (some (10, true)) (.pure (.len true (.t 12)))), 
  (.mk (some 14) (some (10, true)) (.pure (.slStr (.t 11) none (some (.t 13))))), 
  (.mk (some 15) (some (10, true)) (.pure (.mv (.t 1)))), 
  (.mk (some 16) (some (10, true)) (.pure (.sbin .eql (.t 14) (.t 15)))), 
  (.mk (some 17) none (.pure (.pick (.t 10) (.t 16) (.c (.b false))))), 
  (.mk (some 4) none (.pure (.mv (.t 17))))]) .ret)))
def fn85 : AFn := (AFn.mk 17 [(.t 4), (.t 5)] (.seq (.ops [
  (.mk (some 4) none (.pure (.mv (.c (.i .u32 0))))), 
  (.mk (some 5) none (.pure (.mv (.c (.i .u32 0)))))]) (.seq (.ops [
  (.mk (some 7) none (.pure (.mv (.t 0)))), 
  (.mk (some 8) none (.pure (.conv .u64 (.t 7)))), 
  (.mk (some 9) none (.pure (.mv (.t 1)))), 
  (.mk (some 10) none (.pure (.conv .u64 (.t 9)))), 
  (.mk (some 11) none (.pure (.bin .mul (.t 8) (.t 10)))), 
  (.mk (some 6) none (.pure (.mv (.t 11))))]) (.seq (.ops [
  (.mk (some 12) none (.pure (.mv (.t 6)))), 
  (.mk (some 13) none (.pure (.bin .shr (.t 12) (.c (.i .u64 32))))), 
  (.mk (some 14) none (.pure (.conv .u32 (.t 13)))), 
  (.mk (some 15) none (.pure (.mv (.t 6)))), 
  (.mk (some 16) none (.pure (.conv .u32 (.t 15)))), 
  (.mk (some 4) none (.pure (.mv (.t 14)))), 
  (.mk (some 5) none (.pure (.mv (.t 16))))]) .ret))))
def fn86 : AFn := (AFn.mk 51 [(.t 4), (.t 5)] (.seq (.ops [
  (.mk (some 4) none (.pure (.mv (.c (.i .u64 0))))), 
  (.mk (some 5) none (.pure (.mv (.c (.i .u64 0)))))]) (.seq (.ops [
  (.mk (some 14) none (.pure (.mv (.t 0)))), 
  (.mk (some 15) none (.pure (.bin .and (.t 14) (.c (.i .u64 4294967295))))), 
  (.mk (some 6) none (.pure (.mv (.t 15))))]) (.seq (.ops [
  (.mk (some 16) none (.pure (.mv (.t 0)))), 
  (.mk (some 17) none (.pure (.bin .shr (.t 16) (.c (.i .u64 32))))), 
  (.mk (some 7) none (.pure (.mv (.t 17))))]) (.seq (.ops [
  (.mk (some 18) none (.pure (.mv (.t 1)))), 
  (.mk (some 19) none (.pure (.bin .and (.t 18) (.c (.i .u64 4294967295))))), 
  (.mk (some 8) none (.pure (.mv (.t 19))))]) (.seq (.ops [
  (.mk (some 20) none (.pure (.mv (.t 1)))), 
  (.mk (some 21) none (.pure (.bin .shr (.t 20) (.c (.i .u64 32))))), 
  (.mk (some 9) none (.pure (.mv (.t 21))))]) (.seq (.ops [
  (.mk (some 22) none (.pure (.mv (.t 6)))), 
  (.mk (some 23) none (.pure (.mv (.t 8)))), 
  (.mk (some 24) none (.pure (.bin .mul (.t 22) (.t 23)))), 
  (.mk (some 10) none (.pure (.mv (.t 24))))]) (.seq (.ops [
  (.mk (some 25) none (.pure (.mv (.t 7)))), 
  (.mk (some 26) none (.pure (.mv (.t 8)))), 
  (.mk (some 27) none (.pure (.bin .mul (.t 25) (.t 26)))), 
  (.mk (some 28) none (.pure (.mv (.t 10)))), 
  (.mk (some 29) none (.pure (.bin .shr (.t 28) (.c (.i .u64 32))))), 
  (.mk (some 30) none (.pure (.bin .add (.t 27) (.t 29)))), 
  (.mk (some 11) none (.pure (.mv (.t 30))))]) (.seq (.ops [
  (.mk (some 31) none (.pure (.mv (.t 11)))), 
  (.mk (some 32) none (.pure (.bin .and (.t 31) (.c (.i .u64 4294967295))))), 
  (.mk (some 12) none (.pure (.mv (.t 32))))]) (.seq (.ops [
  (.mk (some 33) none (.pure (.mv (.t 11)))), 
  (.mk (some 34) none (.pure (.bin .shr (.t 33) (.c (.i .u64 32))))), 
  (.mk (some 13) none (.pure (.mv (.t 34))))]) (.seq (.ops [
  (.mk (some 35) none (.pure (.mv (.t 12)))), 
  (.mk (some 36) none (.pure (.mv (.t 6)))), 
  (.mk (some 37) none (.pure (.mv (.t 9)))), 
  (.mk (some 38) none (.pure (.bin .mul (.t 36) (.t 37)))), 
  (.mk (some 39) none (.pure (.bin .add (.t 35) (.t 38)))), 
  (.mk (some 12) none (.pure (.mv (.t 39))))]) (.seq (.ops [
  (.mk (some 40) none (.pure (.mv (.t 7)))), 
  (.mk (some 41) none (.pure (.mv (.t 9)))), 
  (.mk (some 42) none (.pure (.bin .mul (.t 40) (.t 41)))), 
  (.mk (some 43) none (.pure (.mv (.t 13)))), 
  (.mk (some 44) none (.pure (.bin .add (.t 42) (.t 43)))), 
  (.mk (some 45) none (.pure (.mv (.t 12)))), 
  (.mk (some 46) none (.pure (.bin .shr (.t 45) (.c (.i .u64 32))))), 
  (.mk (some 47) none (.pure (.bin .add (.t 44) (.t 46)))), 
  (.mk (some 4) none (.pure (.mv (.t 47))))]) (.seq (.ops [
  (.mk (some 48) none (.pure (.mv (.t 0)))), 
  (.mk (some 49) none (.pure (.mv (.t 1)))), 
  (.mk (some 50) none (.pure (.bin .mul (.t 48) (.t 49)))), 
  (.mk (some 5) none (.pure (.mv (.t 50))))]) .ret)))))))))))))
def F (f : Nat) : Option AFn := cond (Nat.blt f 56) (cond (Nat.blt f 39) (cond (Nat.blt f 21) (cond (Nat.blt f 18) (cond (Nat.beq f 14) (some fn14) none) (cond (Nat.blt f 19) (cond (Nat.beq f 18) (some fn18) none) (cond (Nat.beq f 19) (some fn19) none))) (cond (Nat.blt f 29) (cond (Nat.blt f 25) (cond (Nat.beq f 21) (some fn21) none) (cond (Nat.beq f 25) (some fn25) none)) (cond (Nat.blt f 37) (cond (Nat.beq f 29) (some fn29) none) (cond (Nat.beq f 37) (some fn37) none)))) (cond (Nat.blt f 49) (cond (Nat.blt f 45) (cond (Nat.beq f 39) (some fn39) none) (cond (Nat.blt f 48) (cond (Nat.beq f 45) (some fn45) none) (cond (Nat.beq f 48) (some fn48) none))) (cond (Nat.blt f 52) (cond (Nat.blt f 51) (cond (Nat.beq f 49) (some fn49) none) (cond (Nat.beq f 51) (some fn51) none)) (cond (Nat.blt f 55) (cond (Nat.beq f 52) (some fn52) none) (cond (Nat.beq f 55) (some fn55) none))))) (cond (Nat.blt f 72) (cond (Nat.blt f 63) (cond (Nat.blt f 59) (cond (Nat.beq f 56) (some fn56) none) (cond (Nat.blt f 60) (cond (Nat.beq f 59) (some fn59) none) (cond (Nat.beq f 60) (some fn60) none))) (cond (Nat.blt f 68) (cond (Nat.blt f 66) (cond (Nat.beq f 63) (some fn63) none) (cond (Nat.beq f 66) (some fn66) none)) (cond (Nat.blt f 71) (cond (Nat.beq f 68) (some fn68) none) (cond (Nat.beq f 71) (some fn71) none)))) (cond (Nat.blt f 78) (cond (Nat.blt f 74) (cond (Nat.blt f 73) (cond (Nat.beq f 72) (some fn72) none) (cond (Nat.beq f 73) (some fn73) none)) (cond (Nat.blt f 75) (cond (Nat.beq f 74) (some fn74) none) (cond (Nat.beq f 75) (some fn75) none))) (cond (Nat.blt f 85) (cond (Nat.blt f 80) (cond (Nat.beq f 78) (some fn78) none) (cond (Nat.beq f 80) (some fn80) none)) (cond (Nat.blt f 86) (cond (Nat.beq f 85) (some fn85) none) (cond (Nat.beq f 86) (some fn86) none)))))
end Go.Proofs.Ytobmcofkcfifkaa.T
