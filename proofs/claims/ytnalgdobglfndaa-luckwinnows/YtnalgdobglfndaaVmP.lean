/- The functions that the law reaches, as the small machine takes them. -/
import Derived.Test.YtnalgdobglfndaaVmA
import Derived.KernelRfl
open Go.Vm
namespace Go.Proofs.Ytnalgdobglfndaa.T
open Go
def fn11 : AFn := (AFn.mk 147 [(.t 6)] (.seq (.ops [
  (.mk (some 6) none (.pure (.mv (.c (.b false)))))]) (.seq (.seq (.ops [
  (.mk (some 18) none (.pure (.mv (.t 1)))), 
  (.mk (some 19) none (.call 15 [(.t 18), (.c .nsl)])), 
  (.mk (some 20) none (.pure (.not (.t 19)))), 
  (.mk (some 21) none (.pure (.mv (.t 20)))), 
  (.mk (some 22) (some (21, false)) (.pure (.mv (.t 2)))), 
  (.mk (some 23) (some (21, false)) (.pure (.len false (.t 22)))), 
  (.mk (some 24) (some (21, false)) (.pure (.bin .gtr (.t 23) (.c (.i .i64 20))))), 
  (.mk (some 25) none (.pure (.pick (.t 21) (.c (.b true)) (.t 24)))), 
  (.mk (some 26) none (.pure (.mv (.t 25)))), 
  (.mk (some 27) (some (26, false)) (.pure (.mv (.t 0)))), 
  (.mk (some 28) (some (26, false)) (.pure (.bin .lss (.t 27) (.c (.i .i64 1))))), 
  (.mk (some 29) none (.pure (.pick (.t 26) (.c (.b true)) (.t 28)))), 
  (.mk (some 30) none (.pure (.mv (.t 29)))), 
  (.mk (some 31) (some (30, false)) (.pure (.mv (.t 0)))), 
  (.mk (some 32) (some (30, false)) (.pure (.bin .gtr (.t 31) (.c (.i .i64 20))))), 
  (.mk (some 33) none (.pure (.pick (.t 30) (.c (.b true)) (.t 32))))]) (.cond (.t 33) (.seq (.ops [
  (.mk (some 34) none (.call 16 [])), 
  (.mk (some 6) none (.pure (.mv (.t 34))))]) .ret) .skip)) (.seq (.ops [
  (.mk (some 35) none (.pure (.mv (.t 0)))), 
  (.mk (some 36) none (.mk 4 1 1 [(.b false)] (.t 35) (.t 35))), 
  (.mk (some 7) none (.pure (.mv (.t 36))))]) (.seq (.ops [
  (.mk (some 8) none (.pure (.mv (.c (.i .i64 0)))))]) (.seq (.seq (.ops [
  (.mk (some 9) none (.pure (.mv (.c (.i .i64 0)))))]) (.block 0 (.loop (.seq (.seq (.ops [
  (.mk (some 37) none (.pure (.mv (.t 9)))), 
  (.mk (some 38) none (.pure (.mv (.t 2)))), 
  (.mk (some 39) none (.pure (.len false (.t 38)))), 
  (.mk (some 40) none (.pure (.bin .lss (.t 37) (.t 39))))]) (.cond (.t 40) .skip (.exit 0))) (.seq (.block 1 (.seq (.ops [
  (.mk (some 43) none (.pure (.mv (.t 2)))), 
  (.mk (some 44) none (.pure (.mv (.t 9)))), 
  (.mk (some 45) none (.pure (.ixS 1 (.t 43) (.t 44)))), 
  (.mk (some 46) none (.ld true 1 (.t 45))), 
  (.mk (some 47) none (.pure (.conv .i64 (.t 46)))), 
  (.mk (some 48) none (.pure (.mv (.t 0)))), 
  (.mk (some 49) none (.pure (.bin .rem (.t 47) (.t 48)))), 
  (.mk (some 10) none (.pure (.mv (.t 49))))]) (.seq (.seq (.ops [
  (.mk (some 50) none (.pure (.mv (.t 7)))), 
  (.mk (some 51) none (.pure (.mv (.t 10)))), 
  (.mk (some 52) none (.pure (.ixS 1 (.t 50) (.t 51)))), 
  (.mk (some 53) none (.ld true 1 (.t 52))), 
  (.mk (some 54) none (.pure (.not (.t 53))))]) (.cond (.t 54) (.ops [
  (.mk (some 55) none (.pure (.mv (.t 8)))), 
  (.mk (some 56) none (.pure (.bin .add (.t 55) (.c (.i .i64 1))))), 
  (.mk (some 8) none (.pure (.mv (.t 56))))]) .skip)) (.ops [
  (.mk (some 57) none (.pure (.mv (.t 7)))), 
  (.mk (some 58) none (.pure (.mv (.t 10)))), 
  (.mk (some 59) none (.pure (.ixS 1 (.t 57) (.t 58)))), 
  (.mk none none (.st 1 (.t 59) (.c (.b true))))])))) (.ops [
  (.mk (some 41) none (.pure (.mv (.t 9)))), 
  (.mk (some 42) none (.pure (.bin .add (.t 41) (.c (.i .i64 1))))), 
  (.mk (some 9) none (.pure (.mv (.t 42))))])))))) (.seq (.ops [
  (.mk (some 11) none (.pure (.mv (.c .nsl))))]) (.seq (.seq (.ops [
  (.mk (some 12) none (.pure (.mv (.c (.i .i64 0)))))]) (.block 2 (.loop (.seq (.seq (.ops [
  (.mk (some 60) none (.pure (.mv (.t 12)))), 
  (.mk (some 61) none (.pure (.mv (.t 1)))), 
  (.mk (some 62) none (.pure (.len false (.t 61)))), 
  (.mk (some 63) none (.pure (.bin .lss (.t 60) (.t 62))))]) (.cond (.t 63) .skip (.exit 2))) (.seq (.block 3 (.seq (.ops [
  (.mk (some 13) none (.pure (.mv (.c (.i .i64 0)))))]) (.seq (.seq (.ops [
  (.mk (some 14) none (.pure (.mv (.c (.i .i64 0)))))]) (.block 4 (.loop (.seq (.seq (.ops [
  (.mk (some 66) none (.pure (.mv (.t 14)))), 
  (.mk (some 67) none (.pure (.mv (.t 0)))), 
  (.mk (some 68) none (.pure (.bin .lss (.t 66) (.t 67)))), 
  (.mk (some 69) none (.pure (.mv (.t 68)))), 
  (.mk (some 70) (some (69, true)) (.pure (.mv (.t 14)))), 
  (.mk (some 71) (some (69, true)) (.pure (.mv (.t 1)))), 
  (.mk (some 72) (some (69, true)) (.pure (.mv (.t 12)))), 
  (.mk (some 73) (some (69, true)) (.pure (.ixS 1 (.t 71) (.t 72)))), 
  (.mk (some 74) (some (69, true)) (.ld true 1 (.t 73))), 
  (.mk (some 75) (some (69, true)) (.pure (.len false (.t 74)))), 
  (.mk (some 76) (some (69, true)) (.pure (.bin .lss (.t 70) (.t 75)))), 
  (.mk (some 77) none (.pure (.pick (.t 69) (.t 76) (.c (.b false)))))]) (.cond (.t 77) .skip (.exit 4))) (.seq (.block 5 (.seq (.ops [
  (.mk (some 80) none (.pure (.mv (.t 7)))), 
  (.mk (some 81) none (.pure (.mv (.t 14)))), 
  (.mk (some 82) none (.pure (.ixS 1 (.t 80) (.t 81)))), 
  (.mk (some 83) none (.ld true 1 (.t 82))), 
  (.mk (some 84) none (.pure (.mv (.t 83)))), 
  (.mk (some 85) (some (84, true)) (.pure (.mv (.t 1)))), 
  (.mk (some 86) (some (84, true)) (.pure (.mv (.t 12)))), 
  (.mk (some 87) (some (84, true)) (.pure (.ixS 1 (.t 85) (.t 86)))), 
  (.mk (some 88) (some (84, true)) (.ld true 1 (.t 87))), 
  (.mk (some 89) (some (84, true)) (.pure (.mv (.t 14)))), 
  (.mk (some 90) (some (84, true)) (.pure (.ixS 1 (.t 88) (.t 89)))), 
  (.mk (some 91) (some (84, true)) (.ld true 1 (.t 90))), 
  (.mk (some 92) (some (84, true)) (.pure (.bin .eql (.t 91) (.c (.i .i64 1))))), 
  (.mk (some 93) none (.pure (.pick (.t 84) (.t 92) (.c (.b false)))))]) (.cond (.t 93) (.ops [
  (.mk (some 13) none (.pure (.mv (.c (.i .i64 1)))))]) .skip))) (.ops [
  (.mk (some 78) none (.pure (.mv (.t 14)))), 
  (.mk (some 79) none (.pure (.bin .add (.t 78) (.c (.i .i64 1))))), 
  (.mk (some 14) none (.pure (.mv (.t 79))))])))))) (.ops [
  (.mk (some 94) none (.pure (.mv (.t 11)))), 
  (.mk (some 95) none (.pure (.mv (.t 13)))), 
  (.mk (some 96) none (.bsl 3 1 [(.i .i64 0)] 1 [((0, 1), (.t 95))])), 
  (.mk (some 97) none (.app 3 1 8 [(.i .i64 0)] (.t 94) (.t 96))), 
  (.mk (some 11) none (.pure (.mv (.t 97))))])))) (.ops [
  (.mk (some 64) none (.pure (.mv (.t 12)))), 
  (.mk (some 65) none (.pure (.bin .add (.t 64) (.c (.i .i64 1))))), 
  (.mk (some 12) none (.pure (.mv (.t 65))))])))))) (.seq (.ops [
  (.mk (some 99) none (.pure (.mv (.t 0)))), 
  (.mk (some 100) none (.pure (.mv (.t 1)))), 
  (.mk (some 101) none (.pure (.mv (.t 11)))), 
  (.mk (some 102) none (.call 21 [(.t 99), (.t 100), (.t 101)])), 
  (.mk (some 98) none (.pure (.mv (.t 102)))), 
  (.mk (some 103) none (.pure (.ext 0 (.t 98)))), 
  (.mk (some 104) none (.pure (.ext 1 (.t 98)))), 
  (.mk (some 15) none (.pure (.mv (.t 103)))), 
  (.mk (some 16) none (.pure (.mv (.t 104))))]) (.seq (.seq (.ops [
  (.mk (some 105) none (.pure (.mv (.t 16)))), 
  (.mk (some 106) none (.pure (.bin .neq (.t 105) (.c (.i .i64 0)))))]) (.cond (.t 106) (.seq (.ops [
  (.mk (some 107) none (.pure (.mv (.t 16)))), 
  (.mk (some 108) none (.pure (.mv (.t 0)))), 
  (.mk (some 109) none (.pure (.mv (.t 1)))), 
  (.mk (some 110) none (.pure (.mv (.t 11)))), 
  (.mk (some 111) none (.call 38 [(.t 108), (.t 109), (.t 110)])), 
  (.mk (some 112) none (.pure (.bin .eql (.t 107) (.t 111)))), 
  (.mk (some 113) none (.pure (.mv (.t 112)))), 
  (.mk (some 114) (some (113, true)) (.pure (.mv (.t 15)))), 
  (.mk (some 115) (some (113, true)) (.pure (.len false (.t 114)))), 
  (.mk (some 116) (some (113, true)) (.pure (.bin .eql (.t 115) (.c (.i .i64 0))))), 
  (.mk (some 117) none (.pure (.pick (.t 113) (.t 116) (.c (.b false))))), 
  (.mk (some 118) none (.pure (.mv (.t 117)))), 
  (.mk (some 119) (some (118, true)) (.call 16 [])), 
  (.mk (some 120) none (.pure (.pick (.t 118) (.t 119) (.c (.b false))))), 
  (.mk (some 6) none (.pure (.mv (.t 120))))]) .ret) .skip)) (.seq (.ops [
  (.mk (some 17) none (.pure (.mv (.c (.i .i64 0)))))]) (.seq (.block 6 (.loop (.seq (.seq (.ops [
  (.mk (some 121) none (.pure (.mv (.t 17)))), 
  (.mk (some 122) none (.pure (.bin .shl (.c (.i .i64 1)) (.t 121)))), 
  (.mk (some 123) none (.pure (.mv (.t 0)))), 
  (.mk (some 124) none (.pure (.bin .lss (.t 122) (.t 123))))]) (.cond (.t 124) .skip (.exit 6))) (.block 7 (.ops [
  (.mk (some 125) none (.pure (.mv (.t 17)))), 
  (.mk (some 126) none (.pure (.bin .add (.t 125) (.c (.i .i64 1))))), 
  (.mk (some 17) none (.pure (.mv (.t 126))))]))))) (.seq (.ops [
  (.mk (some 127) none (.pure (.mv (.t 15)))), 
  (.mk (some 128) none (.pure (.len false (.t 127)))), 
  (.mk (some 129) none (.pure (.mv (.t 11)))), 
  (.mk (some 130) none (.pure (.len false (.t 129)))), 
  (.mk (some 131) none (.pure (.bin .eql (.t 128) (.t 130)))), 
  (.mk (some 132) none (.pure (.mv (.t 131)))), 
  (.mk (some 133) (some (132, true)) (.pure (.mv (.t 15)))), 
  (.mk (some 134) (some (132, true)) (.pure (.mv (.t 11)))), 
  (.mk (some 135) (some (132, true)) (.call 37 [(.t 133), (.t 134)])), 
  (.mk (some 136) (some (132, true)) (.pure (.mv (.t 8)))), 
  (.mk (some 137) (some (132, true)) (.pure (.bin .mul (.c (.i .i64 3)) (.t 136)))), 
  (.mk (some 138) (some (132, true)) (.pure (.mv (.t 17)))), 
  (.mk (some 139) (some (132, true)) (.pure (.bin .add (.c (.i .i64 1)) (.t 138)))), 
  (.mk (some 140) (some (132, true)) (.pure (.bin .mul (.t 137) (.t 139)))), 
  (.mk (some 141) (some (132, true)) (.pure (.bin .add (.c (.i .i64 2)) (.t 140)))), 
  (.mk (some 142) (some (132, true)) (.pure (.bin .leq (.t 135) (.t 141)))), 
  (.mk (some 143) none (.pure (.pick (.t 132) (.t 142) (.c (.b false))))), 
  (.mk (some 144) none (.pure (.mv (.t 143)))), 
  (.mk (some 145) (some (144, true)) (.call 16 [])), 
  (.mk (some 146) none (.pure (.pick (.t 144) (.t 145) (.c (.b false))))), 
  (.mk (some 6) none (.pure (.mv (.t 146))))]) .ret)))))))))))))
def fn15 : AFn := (AFn.mk 25 [(.t 4)] (.seq (.ops [
  (.mk (some 4) none (.pure (.mv (.c (.b false)))))]) (.seq (.seq (.ops [
  (.mk (some 5) none (.pure (.mv (.c (.i .i64 0)))))]) (.block 0 (.loop (.seq (.seq (.ops [
  (.mk (some 6) none (.pure (.mv (.t 5)))), 
  (.mk (some 7) none (.pure (.mv (.t 0)))), 
  (.mk (some 8) none (.pure (.len false (.t 7)))), 
  (.mk (some 9) none (.pure (.bin .lss (.t 6) (.t 8))))]) (.cond (.t 9) .skip (.exit 0))) (.seq (.block 1 (.seq (.ops [
  (.mk (some 12) none (.pure (.mv (.t 5)))), 
  (.mk (some 13) none (.pure (.bin .geq (.t 12) (.c (.i .i64 250))))), 
  (.mk (some 14) none (.pure (.mv (.t 13)))), 
  (.mk (some 15) (some (14, false)) (.pure (.mv (.t 0)))), 
  (.mk (some 16) (some (14, false)) (.pure (.mv (.t 5)))), 
  (.mk (some 17) (some (14, false)) (.pure (.ixS 1 (.t 15) (.t 16)))), 
  (.mk (some 18) (some (14, false)) (.ld true 1 (.t 17))), 
  (.mk (some 19) (some (14, false)) (.pure (.len false (.t 18)))), 
  (.mk (some 20) (some (14, false)) (.pure (.bin .gtr (.t 19) (.c (.i .i64 40))))), 
  (.mk (some 21) none (.pure (.pick (.t 14) (.c (.b true)) (.t 20))))]) (.cond (.t 21) (.seq (.ops [
  (.mk (some 4) none (.pure (.mv (.c (.b false)))))]) .ret) .skip))) (.ops [
  (.mk (some 10) none (.pure (.mv (.t 5)))), 
  (.mk (some 11) none (.pure (.bin .add (.t 10) (.c (.i .i64 1))))), 
  (.mk (some 5) none (.pure (.mv (.t 11))))])))))) (.seq (.ops [
  (.mk (some 22) none (.pure (.mv (.t 1)))), 
  (.mk (some 23) none (.pure (.len false (.t 22)))), 
  (.mk (some 24) none (.pure (.bin .leq (.t 23) (.c (.i .i64 1100))))), 
  (.mk (some 4) none (.pure (.mv (.t 24))))]) .ret))))
def fn16 : AFn := (AFn.mk 73 [(.t 0)] (.seq (.ops [
  (.mk (some 0) none (.pure (.mv (.c (.b false)))))]) (.seq (.ops [
  (.mk (some 11) none (.bsl 3 1 [(.i .i64 0)] 2 [((0, 1), (.c (.i .i64 0))), ((1, 1), (.c (.i .i64 1)))])), 
  (.mk (some 12) none (.bsl 3 1 [(.i .i64 0)] 2 [((0, 1), (.c (.i .i64 0))), ((1, 1), (.c (.i .i64 1)))])), 
  (.mk (some 13) none (.bsl 23 1 [.nsl] 2 [((0, 1), (.t 11)), ((1, 1), (.t 12))])), 
  (.mk (some 14) none (.bsl 3 1 [(.i .i64 0)] 2 [((0, 1), (.c (.i .i64 1))), ((1, 1), (.c (.i .i64 1)))])), 
  (.mk (some 15) none (.call 23 [(.c (.i .i64 2)), (.t 13), (.t 14)])), 
  (.mk (some 10) none (.pure (.mv (.t 15)))), 
  (.mk (some 16) none (.pure (.ext 0 (.t 10)))), 
  (.mk (some 17) none (.pure (.ext 1 (.t 10)))), 
  (.mk (some 18) none (.pure (.ext 2 (.t 10)))), 
  (.mk (some 1) none (.pure (.mv (.t 16)))), 
  (.mk (some 2) none (.pure (.mv (.t 17)))), 
  (.mk (some 3) none (.pure (.mv (.t 18))))]) (.seq (.ops [
  (.mk (some 20) none (.bsl 3 1 [(.i .i64 0)] 2 [((0, 1), (.c (.i .i64 29))), ((1, 1), (.c (.i .i64 30)))])), 
  (.mk (some 21) none (.call 29 [(.c (.i .i64 1)), (.t 20)])), 
  (.mk (some 19) none (.pure (.mv (.t 21)))), 
  (.mk (some 22) none (.pure (.ext 0 (.t 19)))), 
  (.mk (some 23) none (.pure (.ext 1 (.t 19)))), 
  (.mk (some 4) none (.pure (.mv (.t 22)))), 
  (.mk (some 5) none (.pure (.mv (.t 23))))]) (.seq (.ops [
  (.mk (some 25) none (.bsl 3 1 [(.i .i64 0)] 2 [((0, 1), (.c (.i .i64 0))), ((1, 1), (.c (.i .i64 60)))])), 
  (.mk (some 26) none (.call 31 [(.c (.i .i64 1)), (.t 25), (.c .nsl)])), 
  (.mk (some 24) none (.pure (.mv (.t 26)))), 
  (.mk (some 27) none (.pure (.ext 0 (.t 24)))), 
  (.mk (some 28) none (.pure (.ext 1 (.t 24)))), 
  (.mk (some 6) none (.al 42 [(.i .i64 0), (.i .i64 0)])), 
  (.mk none none (.st 2 (.t 6) (.t 27))), 
  (.mk (some 7) none (.pure (.mv (.t 28))))]) (.seq (.ops [
  (.mk (some 30) none (.bsl 3 1 [(.i .i64 0)] 2 [((0, 1), (.c (.i .i64 0))), ((1, 1), (.c (.i .i64 1)))])), 
  (.mk (some 31) none (.bsl 23 1 [.nsl] 1 [((0, 1), (.t 30))])), 
  (.mk (some 32) none (.call 35 [(.c (.i .i64 1)), (.c (.i .i64 2)), (.t 31)])), 
  (.mk (some 29) none (.pure (.mv (.t 32)))), 
  (.mk (some 33) none (.pure (.ext 0 (.t 29)))), 
  (.mk (some 34) none (.pure (.ext 1 (.t 29)))), 
  (.mk (some 8) none (.al 42 [(.i .i64 0), (.i .i64 0)])), 
  (.mk none none (.st 2 (.t 8) (.t 33))), 
  (.mk (some 9) none (.pure (.mv (.t 34))))]) (.seq (.ops [
  (.mk (some 35) none (.pure (.mv (.t 3)))), 
  (.mk (some 36) none (.pure (.bin .eql (.t 35) (.c (.i .i64 0))))), 
  (.mk (some 37) none (.pure (.mv (.t 36)))), 
  (.mk (some 38) (some (37, true)) (.pure (.mv (.t 1)))), 
  (.mk (some 39) (some (37, true)) (.bsl 3 1 [(.i .i64 0)] 2 [((0, 1), (.c (.i .i64 0))), ((1, 1), (.c (.i .i64 1)))])), 
  (.mk (some 40) (some (37, true)) (.call 20 [(.t 38), (.t 39)])), 
  (.mk (some 41) none (.pure (.pick (.t 37) (.t 40) (.c (.b false))))), 
  (.mk (some 42) none (.pure (.mv (.t 41)))), 
  (.mk (some 43) (some (42, true)) (.pure (.mv (.t 2)))), 
  (.mk (some 44) (some (42, true)) (.bsl 3 1 [(.i .i64 0)] 2 [((0, 1), (.c (.i .i64 2))), ((1, 1), (.c (.i .i64 0)))])), 
  (.mk (some 45) (some (42, true)) (.call 20 [(.t 43), (.t 44)])), 
  (.mk (some 46) none (.pure (.pick (.t 42) (.t 45) (.c (.b false))))), 
  (.mk (some 47) none (.pure (.mv (.t 46)))), 
  (.mk (some 48) (some (47, true)) (.pure (.mv (.t 5)))), 
  (.mk (some 49) (some (47, true)) (.pure (.bin .eql (.t 48) (.c (.i .i64 0))))), 
  (.mk (some 50) none (.pure (.pick (.t 47) (.t 49) (.c (.b false))))), 
  (.mk (some 51) none (.pure (.mv (.t 50)))), 
  (.mk (some 52) (some (51, true)) (.pure (.mv (.t 4)))), 
  (.mk (some 53) (some (51, true)) (.pure (.bin .eql (.t 52) (.c (.i .i64 0))))), 
  (.mk (some 54) none (.pure (.pick (.t 51) (.t 53) (.c (.b false))))), 
  (.mk (some 55) none (.pure (.mv (.t 54)))), 
  (.mk (some 56) (some (55, true)) (.pure (.mv (.t 7)))), 
  (.mk (some 57) (some (55, true)) (.pure (.bin .eql (.t 56) (.c (.i .i64 0))))), 
  (.mk (some 58) none (.pure (.pick (.t 55) (.t 57) (.c (.b false))))), 
  (.mk (some 59) none (.pure (.mv (.t 58)))), 
  (.mk (some 60) (some (59, true)) (.ld false 2 (.t 6))), 
  (.mk (some 61) (some (59, true)) (.pure (.build [(.i .i64 0), (.i .i64 0)] [((0, 1), (.c (.i .i64 0))), ((1, 1), (.c (.i .i64 1)))]))), 
  (.mk (some 62) (some (59, true)) (.pure (.seq false [0, 1] (.t 60) (.t 61)))), 
  (.mk (some 63) none (.pure (.pick (.t 59) (.t 62) (.c (.b false))))), 
  (.mk (some 64) none (.pure (.mv (.t 63)))), 
  (.mk (some 65) (some (64, true)) (.pure (.mv (.t 9)))), 
  (.mk (some 66) (some (64, true)) (.pure (.bin .eql (.t 65) (.c (.i .i64 0))))), 
  (.mk (some 67) none (.pure (.pick (.t 64) (.t 66) (.c (.b false))))), 
  (.mk (some 68) none (.pure (.mv (.t 67)))), 
  (.mk (some 69) (some (68, true)) (.ld false 2 (.t 8))), 
  (.mk (some 70) (some (68, true)) (.pure (.build [(.i .i64 0), (.i .i64 0)] [((0, 1), (.c (.i .i64 1))), ((1, 1), (.c (.i .i64 2)))]))), 
  (.mk (some 71) (some (68, true)) (.pure (.seq false [0, 1] (.t 69) (.t 70)))), 
  (.mk (some 72) none (.pure (.pick (.t 68) (.t 71) (.c (.b false))))), 
  (.mk (some 0) none (.pure (.mv (.t 72))))]) .ret)))))))
def fn20 : AFn := (AFn.mk 26 [(.t 4)] (.seq (.ops [
  (.mk (some 4) none (.pure (.mv (.c (.b false)))))]) (.seq (.seq (.ops [
  (.mk (some 6) none (.pure (.mv (.t 0)))), 
  (.mk (some 7) none (.pure (.len false (.t 6)))), 
  (.mk (some 8) none (.pure (.mv (.t 1)))), 
  (.mk (some 9) none (.pure (.len false (.t 8)))), 
  (.mk (some 10) none (.pure (.bin .neq (.t 7) (.t 9))))]) (.cond (.t 10) (.seq (.ops [
  (.mk (some 4) none (.pure (.mv (.c (.b false)))))]) .ret) .skip)) (.seq (.seq (.ops [
  (.mk (some 5) none (.pure (.mv (.c (.i .i64 0)))))]) (.block 0 (.loop (.seq (.seq (.ops [
  (.mk (some 11) none (.pure (.mv (.t 5)))), 
  (.mk (some 12) none (.pure (.mv (.t 0)))), 
  (.mk (some 13) none (.pure (.len false (.t 12)))), 
  (.mk (some 14) none (.pure (.bin .lss (.t 11) (.t 13))))]) (.cond (.t 14) .skip (.exit 0))) (.seq (.block 1 (.seq (.any [(
  (.mk (some 17) none (.pure (.mv (.t 0)))), false), (
  (.mk (some 18) none (.pure (.mv (.t 5)))), false), (
  (.mk (some 19) none (.pure (.ixS 1 (.t 17) (.t 18)))), false), (
  (.mk (some 20) none (.ld true 1 (.t 19))), false), (
  (.mk (some 21) none (.pure (.mv (.t 1)))), false), (
  (.mk (some 22) none (.pure (.mv (.t 5)))), false), (
  (.mk (some 23) none (.pure (.ixS 1 (.t 21) (.t 22)))), false), (
  (.mk (some 24) none (.ld true 1 (.t 23))), false), (
  (.mk (some 25) none (.pure (.bin .neq (.t 20) (.t 24)))), false)]) (.cond (.t 25) (.seq (.ops [
  (.mk (some 4) none (.pure (.mv (.c (.b false)))))]) .ret) .skip))) (.ops [
  (.mk (some 15) none (.pure (.mv (.t 5)))), 
  (.mk (some 16) none (.pure (.bin .add (.t 15) (.c (.i .i64 1))))), 
  (.mk (some 5) none (.pure (.mv (.t 16))))])))))) (.seq (.ops [
  (.mk (some 4) none (.pure (.mv (.c (.b true)))))]) .ret)))))
def fn21 : AFn := (AFn.mk 24 [(.t 6), (.t 7)] (.seq (.ops [
  (.mk (some 6) none (.pure (.mv (.c .nsl)))), 
  (.mk (some 7) none (.pure (.mv (.c (.i .i64 0)))))]) (.seq (.seq (.ops [
  (.mk (some 9) none (.pure (.mv (.t 0)))), 
  (.mk (some 10) none (.pure (.mv (.t 1)))), 
  (.mk (some 11) none (.pure (.mv (.t 2)))), 
  (.mk (some 12) none (.call 49 [(.t 9), (.t 10), (.t 11)])), 
  (.mk (some 8) none (.pure (.mv (.t 12))))]) (.seq (.ops [
  (.mk (some 13) none (.pure (.mv (.t 8)))), 
  (.mk (some 14) none (.pure (.bin .neq (.t 13) (.c (.i .i64 0)))))]) (.cond (.t 14) (.seq (.ops [
  (.mk (some 15) none (.pure (.mv (.t 8)))), 
  (.mk (some 6) none (.pure (.mv (.c .nsl)))), 
  (.mk (some 7) none (.pure (.mv (.t 15))))]) .ret) .skip))) (.seq (.ops [
  (.mk (some 16) none (.bsl 3 1 [(.i .i64 0)] 1 [((0, 1), (.c (.i .i64 1)))])), 
  (.mk (some 17) none (.pure (.mv (.t 0)))), 
  (.mk (some 18) none (.call 51 [(.t 16), (.t 17)])), 
  (.mk (some 19) none (.pure (.build [.nsl] [((0, 1), (.t 18))]))), 
  (.mk (some 20) none (.pure (.mki 74 (.t 19)))), 
  (.mk (some 21) none (.pure (.mv (.t 1)))), 
  (.mk (some 22) none (.pure (.mv (.t 2)))), 
  (.mk (some 23) none (.call 50 [(.t 20), (.t 21), (.t 22)])), 
  (.mk (some 6) none (.pure (.mv (.t 23)))), 
  (.mk (some 7) none (.pure (.mv (.c (.i .i64 0)))))]) .ret))))
def fn23 : AFn := (AFn.mk 30 [(.t 6), (.t 7), (.t 8)] (.seq (.ops [
  (.mk (some 6) none (.pure (.mv (.c .nsl)))), 
  (.mk (some 7) none (.pure (.mv (.c .nsl)))), 
  (.mk (some 8) none (.pure (.mv (.c (.i .i64 0)))))]) (.seq (.seq (.ops [
  (.mk (some 12) none (.pure (.mv (.t 0)))), 
  (.mk (some 13) none (.pure (.mv (.t 1)))), 
  (.mk (some 14) none (.pure (.mv (.t 2)))), 
  (.mk (some 15) none (.call 49 [(.t 12), (.t 13), (.t 14)])), 
  (.mk (some 9) none (.pure (.mv (.t 15))))]) (.seq (.ops [
  (.mk (some 16) none (.pure (.mv (.t 9)))), 
  (.mk (some 17) none (.pure (.bin .neq (.t 16) (.c (.i .i64 0)))))]) (.cond (.t 17) (.seq (.ops [
  (.mk (some 18) none (.pure (.mv (.t 9)))), 
  (.mk (some 6) none (.pure (.mv (.c .nsl)))), 
  (.mk (some 7) none (.pure (.mv (.c .nsl)))), 
  (.mk (some 8) none (.pure (.mv (.t 18))))]) .ret) .skip))) (.seq (.ops [
  (.mk (some 19) none (.pure (.mv (.t 0)))), 
  (.mk (some 20) none (.mk 3 1 8 [(.i .i64 0)] (.t 19) (.t 19))), 
  (.mk (some 10) none (.pure (.mv (.t 20))))]) (.seq (.ops [
  (.mk (some 21) none (.pure (.mv (.t 10)))), 
  (.mk (some 22) none (.pure (.build [.nsl] [((0, 1), (.t 21))]))), 
  (.mk (some 23) none (.pure (.build [.nsl] [((0, 1), (.t 22))]))), 
  (.mk (some 24) none (.pure (.mki 76 (.t 23)))), 
  (.mk (some 25) none (.pure (.mv (.t 1)))), 
  (.mk (some 26) none (.pure (.mv (.t 2)))), 
  (.mk (some 27) none (.call 50 [(.t 24), (.t 25), (.t 26)])), 
  (.mk (some 11) none (.pure (.mv (.t 27))))]) (.seq (.ops [
  (.mk (some 28) none (.pure (.mv (.t 11)))), 
  (.mk (some 29) none (.pure (.mv (.t 10)))), 
  (.mk (some 6) none (.pure (.mv (.t 28)))), 
  (.mk (some 7) none (.pure (.mv (.t 29)))), 
  (.mk (some 8) none (.pure (.mv (.c (.i .i64 0)))))]) .ret))))))
def fn29 : AFn := (AFn.mk 13 [(.t 4), (.t 5)] (.seq (.ops [
  (.mk (some 4) none (.pure (.mv (.c (.i .i64 0))))), 
  (.mk (some 5) none (.pure (.mv (.c (.i .i64 0)))))]) (.seq (.seq (.ops [
  (.mk (some 6) none (.pure (.mv (.t 0)))), 
  (.mk (some 7) none (.pure (.mv (.t 1)))), 
  (.mk (some 8) none (.call 58 [(.t 6), (.t 7)])), 
  (.mk (some 9) none (.pure (.not (.t 8))))]) (.cond (.t 9) (.seq (.ops [
  (.mk (some 4) none (.pure (.mv (.c (.i .i64 0))))), 
  (.mk (some 5) none (.pure (.mv (.c (.i .i64 2)))))]) .ret) .skip)) (.seq (.seq (.ops [
  (.mk (some 10) none (.pure (.mv (.t 1)))), 
  (.mk (some 11) none (.call 59 [(.t 10)])), 
  (.mk (some 12) none (.pure (.bin .lss (.t 11) (.c (.i .i64 0)))))]) (.cond (.t 12) (.seq (.ops [
  (.mk (some 4) none (.pure (.mv (.c (.i .i64 0))))), 
  (.mk (some 5) none (.pure (.mv (.c (.i .i64 0)))))]) .ret) .skip)) (.seq (.ops [
  (.mk (some 4) none (.pure (.mv (.c (.i .i64 1))))), 
  (.mk (some 5) none (.pure (.mv (.c (.i .i64 0)))))]) .ret)))))
def fn31 : AFn := (AFn.mk 52 [(.c 6 false 2), (.t 7)] (.seq (.ops [
  (.mk (some 6) none (.al 42 [(.i .i64 0), (.i .i64 0)])), 
  (.mk (some 7) none (.pure (.mv (.c (.i .i64 0)))))]) (.seq (.ops [
  (.mk (some 13) none (.pure (.mv (.t 0)))), 
  (.mk (some 14) none (.pure (.mv (.t 1)))), 
  (.mk (some 15) none (.call 29 [(.t 13), (.t 14)])), 
  (.mk (some 12) none (.pure (.mv (.t 15)))), 
  (.mk (some 16) none (.pure (.ext 0 (.t 12)))), 
  (.mk (some 17) none (.pure (.ext 1 (.t 12)))), 
  (.mk (some 8) none (.pure (.mv (.t 16)))), 
  (.mk (some 9) none (.pure (.mv (.t 17))))]) (.seq (.seq (.ops [
  (.mk (some 18) none (.pure (.mv (.t 9)))), 
  (.mk (some 19) none (.pure (.bin .neq (.t 18) (.c (.i .i64 0)))))]) (.cond (.t 19) (.seq (.ops [
  (.mk (some 20) none (.pure (.build [(.i .i64 0), (.i .i64 0)] []))), 
  (.mk (some 21) none (.pure (.mv (.t 9)))), 
  (.mk none none (.st 2 (.t 6) (.t 20))), 
  (.mk (some 7) none (.pure (.mv (.t 21))))]) .ret) .skip)) (.seq (.seq (.ops [
  (.mk (some 22) none (.pure (.mv (.t 2)))), 
  (.mk (some 23) none (.pure (.len false (.t 22)))), 
  (.mk (some 24) none (.pure (.mv (.t 0)))), 
  (.mk (some 25) none (.pure (.bin .geq (.t 23) (.t 24)))), 
  (.mk (some 26) none (.pure (.mv (.t 25)))), 
  (.mk (some 27) (some (26, false)) (.pure (.mv (.t 2)))), 
  (.mk (some 28) (some (26, false)) (.pure (.mv (.t 2)))), 
  (.mk (some 29) (some (26, false)) (.pure (.len false (.t 28)))), 
  (.mk (some 30) (some (26, false)) (.call 61 [(.t 27), (.t 29)])), 
  (.mk (some 31) (some (26, false)) (.pure (.not (.t 30)))), 
  (.mk (some 32) none (.pure (.pick (.t 26) (.c (.b true)) (.t 31))))]) (.cond (.t 32) (.seq (.ops [
  (.mk (some 33) none (.pure (.build [(.i .i64 0), (.i .i64 0)] []))), 
  (.mk none none (.st 2 (.t 6) (.t 33))), 
  (.mk (some 7) none (.pure (.mv (.c (.i .i64 2)))))]) .ret) .skip)) (.seq (.seq (.ops [
  (.mk (some 34) none (.pure (.mv (.t 8)))), 
  (.mk (some 35) none (.pure (.bin .eql (.t 34) (.c (.i .i64 0)))))]) (.cond (.t 35) (.seq (.ops [
  (.mk (some 36) none (.pure (.build [(.i .i64 0), (.i .i64 0)] []))), 
  (.mk none none (.st 2 (.t 6) (.t 36))), 
  (.mk (some 7) none (.pure (.mv (.c (.i .i64 10)))))]) .ret) .skip)) (.seq (.seq (.ops [
  (.mk (some 37) none (.pure (.mv (.t 2)))), 
  (.mk (some 38) none (.pure (.len false (.t 37)))), 
  (.mk (some 39) none (.pure (.mv (.c (.i .i64 0)))))]) (.block 0 (.loop (.seq (.ops [
  (.mk (some 40) none (.pure (.bin .lss (.t 39) (.t 38))))]) (.seq (.cond (.t 40) .skip (.exit 0)) (.seq (.block 1 (.seq (.ops [
  (.mk (some 41) none (.pure (.ixS 1 (.t 37) (.t 39)))), 
  (.mk (some 42) none (.ld true 1 (.t 41))), 
  (.mk (some 11) none (.pure (.mv (.t 42))))]) (.ops [
  (.mk (some 43) none (.pure (.mv (.t 1)))), 
  (.mk (some 44) none (.pure (.mv (.t 11)))), 
  (.mk (some 45) none (.call 62 [(.t 43), (.t 44)])), 
  (.mk (some 1) none (.pure (.mv (.t 45))))]))) (.ops [
  (.mk (some 46) none (.pure (.bin .add (.t 39) (.c (.i .i64 1))))), 
  (.mk (some 39) none (.pure (.mv (.t 46))))]))))))) (.seq (.ops [
  (.mk (some 47) none (.pure (.mv (.t 1)))), 
  (.mk (some 48) none (.call 64 [(.t 47)])), 
  (.mk (some 49) none (.pure (.ext 0 (.t 48)))), 
  (.mk (some 50) none (.pure (.ext 1 (.t 48)))), 
  (.mk (some 51) none (.call 63 [(.t 49), (.t 50)])), 
  (.mk none none (.st 2 (.t 6) (.t 51))), 
  (.mk (some 7) none (.pure (.mv (.c (.i .i64 0)))))]) .ret))))))))
def fn35 : AFn := (AFn.mk 86 [(.c 6 false 2), (.t 7)] (.seq (.ops [
  (.mk (some 6) none (.al 42 [(.i .i64 0), (.i .i64 0)])), 
  (.mk (some 7) none (.pure (.mv (.c (.i .i64 0)))))]) (.seq (.seq (.ops [
  (.mk (some 16) none (.pure (.mv (.t 0)))), 
  (.mk (some 17) none (.pure (.bin .lss (.t 16) (.c (.i .i64 1))))), 
  (.mk (some 18) none (.pure (.mv (.t 17)))), 
  (.mk (some 19) (some (18, false)) (.pure (.mv (.t 0)))), 
  (.mk (some 20) (some (18, false)) (.pure (.bin .gtr (.t 19) (.c (.i .i64 10))))), 
  (.mk (some 21) none (.pure (.pick (.t 18) (.c (.b true)) (.t 20)))), 
  (.mk (some 22) none (.pure (.mv (.t 21)))), 
  (.mk (some 23) (some (22, false)) (.pure (.mv (.t 1)))), 
  (.mk (some 24) (some (22, false)) (.pure (.bin .lss (.t 23) (.c (.i .i64 1))))), 
  (.mk (some 25) none (.pure (.pick (.t 22) (.c (.b true)) (.t 24)))), 
  (.mk (some 26) none (.pure (.mv (.t 25)))), 
  (.mk (some 27) (some (26, false)) (.pure (.mv (.t 1)))), 
  (.mk (some 28) (some (26, false)) (.pure (.bin .gtr (.t 27) (.c (.i .i64 20))))), 
  (.mk (some 29) none (.pure (.pick (.t 26) (.c (.b true)) (.t 28)))), 
  (.mk (some 30) none (.pure (.mv (.t 29)))), 
  (.mk (some 31) (some (30, false)) (.pure (.mv (.t 2)))), 
  (.mk (some 32) (some (30, false)) (.pure (.mv (.t 0)))), 
  (.mk (some 33) (some (30, false)) (.pure (.mv (.t 1)))), 
  (.mk (some 34) (some (30, false)) (.call 68 [(.t 31), (.t 32), (.t 33)])), 
  (.mk (some 35) (some (30, false)) (.pure (.not (.t 34)))), 
  (.mk (some 36) none (.pure (.pick (.t 30) (.c (.b true)) (.t 35))))]) (.cond (.t 36) (.seq (.ops [
  (.mk (some 37) none (.pure (.build [(.i .i64 0), (.i .i64 0)] []))), 
  (.mk none none (.st 2 (.t 6) (.t 37))), 
  (.mk (some 7) none (.pure (.mv (.c (.i .i64 2)))))]) .ret) .skip)) (.seq (.ops [
  (.mk (some 38) none (.pure (.mv (.t 1)))), 
  (.mk (some 39) none (.mk 3 1 8 [(.i .i64 0)] (.t 38) (.t 38))), 
  (.mk (some 8) none (.pure (.mv (.t 39))))]) (.seq (.seq (.ops [
  (.mk (some 40) none (.pure (.mv (.t 2)))), 
  (.mk (some 41) none (.pure (.len false (.t 40)))), 
  (.mk (some 42) none (.pure (.mv (.c (.i .i64 0)))))]) (.block 0 (.loop (.seq (.ops [
  (.mk (some 43) none (.pure (.bin .lss (.t 42) (.t 41))))]) (.seq (.cond (.t 43) .skip (.exit 0)) (.seq (.block 1 (.seq (.ops [
  (.mk (some 44) none (.pure (.ixS 1 (.t 40) (.t 42)))), 
  (.mk (some 45) none (.ld true 1 (.t 44))), 
  (.mk (some 10) none (.pure (.mv (.t 45))))]) (.seq (.ops [
  (.mk (some 46) none (.pure (.mv (.t 10)))), 
  (.mk (some 47) none (.pure (.len false (.t 46)))), 
  (.mk (some 48) none (.pure (.mv (.c (.i .i64 0)))))]) (.block 2 (.loop (.seq (.ops [
  (.mk (some 49) none (.pure (.bin .lss (.t 48) (.t 47))))]) (.seq (.cond (.t 49) .skip (.exit 2)) (.seq (.block 3 (.seq (.ops [
  (.mk (some 50) none (.pure (.mv (.t 48)))), 
  (.mk (some 51) none (.pure (.ixS 1 (.t 46) (.t 48)))), 
  (.mk (some 52) none (.ld true 1 (.t 51))), 
  (.mk (some 11) none (.pure (.mv (.t 50)))), 
  (.mk (some 12) none (.pure (.mv (.t 52))))]) (.ops [
  (.mk (some 53) none (.pure (.mv (.t 8)))), 
  (.mk (some 54) none (.pure (.mv (.t 11)))), 
  (.mk (some 55) none (.pure (.mv (.t 8)))), 
  (.mk (some 56) none (.pure (.mv (.t 11)))), 
  (.mk (some 57) none (.pure (.ixS 1 (.t 55) (.t 56)))), 
  (.mk (some 58) none (.ld true 1 (.t 57))), 
  (.mk (some 59) none (.pure (.bin .mul (.c (.i .i64 2)) (.t 58)))), 
  (.mk (some 60) none (.pure (.mv (.t 12)))), 
  (.mk (some 61) none (.pure (.bin .add (.t 59) (.t 60)))), 
  (.mk (some 62) none (.pure (.ixS 1 (.t 53) (.t 54)))), 
  (.mk none none (.st 1 (.t 62) (.t 61)))]))) (.ops [
  (.mk (some 63) none (.pure (.bin .add (.t 48) (.c (.i .i64 1))))), 
  (.mk (some 48) none (.pure (.mv (.t 63))))]))))))))) (.ops [
  (.mk (some 64) none (.pure (.bin .add (.t 42) (.c (.i .i64 1))))), 
  (.mk (some 42) none (.pure (.mv (.t 64))))]))))))) (.seq (.ops [
  (.mk (some 65) none (.pure (.mv (.t 0)))), 
  (.mk (some 66) none (.pure (.bin .shl (.c (.i .i64 1)) (.t 65)))), 
  (.mk (some 13) none (.pure (.mv (.t 66))))]) (.seq (.ops [
  (.mk (some 14) none (.pure (.mv (.c (.i .i64 0)))))]) (.seq (.seq (.ops [
  (.mk (some 67) none (.pure (.mv (.t 13)))), 
  (.mk (some 68) none (.pure (.mv (.c (.i .i64 0)))))]) (.block 4 (.loop (.seq (.ops [
  (.mk (some 69) none (.pure (.bin .lss (.t 68) (.t 67))))]) (.seq (.cond (.t 69) .skip (.exit 4)) (.seq (.block 5 (.seq (.ops [
  (.mk (some 70) none (.pure (.mv (.t 68)))), 
  (.mk (some 15) none (.pure (.mv (.t 70))))]) (.ops [
  (.mk (some 71) none (.pure (.mv (.t 14)))), 
  (.mk (some 72) none (.pure (.mv (.t 8)))), 
  (.mk (some 73) none (.pure (.mv (.t 15)))), 
  (.mk (some 74) none (.call 69 [(.t 72), (.t 73)])), 
  (.mk (some 75) none (.pure (.bin .add (.t 71) (.t 74)))), 
  (.mk (some 14) none (.pure (.mv (.t 75))))]))) (.ops [
  (.mk (some 76) none (.pure (.bin .add (.t 68) (.c (.i .i64 1))))), 
  (.mk (some 68) none (.pure (.mv (.t 76))))]))))))) (.seq (.ops [
  (.mk (some 77) none (.pure (.mv (.t 0)))), 
  (.mk (some 78) none (.pure (.mv (.t 13)))), 
  (.mk (some 79) none (.pure (.bin .mul (.t 77) (.t 78)))), 
  (.mk (some 80) none (.pure (.mv (.t 14)))), 
  (.mk (some 81) none (.pure (.bin .mul (.c (.i .i64 2)) (.t 80)))), 
  (.mk (some 82) none (.pure (.bin .sub (.t 79) (.t 81)))), 
  (.mk (some 83) none (.pure (.mv (.t 13)))), 
  (.mk (some 84) none (.pure (.bin .mul (.c (.i .i64 2)) (.t 83)))), 
  (.mk (some 85) none (.call 63 [(.t 82), (.t 84)])), 
  (.mk none none (.st 2 (.t 6) (.t 85))), 
  (.mk (some 7) none (.pure (.mv (.c (.i .i64 0)))))]) .ret)))))))))
def fn37 : AFn := (AFn.mk 31 [(.t 4)] (.seq (.ops [
  (.mk (some 4) none (.pure (.mv (.c (.i .i64 0)))))]) (.seq (.ops [
  (.mk (some 5) none (.pure (.mv (.c (.i .i64 0)))))]) (.seq (.seq (.ops [
  (.mk (some 6) none (.pure (.mv (.c (.i .i64 0)))))]) (.block 0 (.loop (.seq (.seq (.ops [
  (.mk (some 7) none (.pure (.mv (.t 6)))), 
  (.mk (some 8) none (.pure (.mv (.t 0)))), 
  (.mk (some 9) none (.pure (.len false (.t 8)))), 
  (.mk (some 10) none (.pure (.bin .lss (.t 7) (.t 9)))), 
  (.mk (some 11) none (.pure (.mv (.t 10)))), 
  (.mk (some 12) (some (11, true)) (.pure (.mv (.t 6)))), 
  (.mk (some 13) (some (11, true)) (.pure (.mv (.t 1)))), 
  (.mk (some 14) (some (11, true)) (.pure (.len false (.t 13)))), 
  (.mk (some 15) (some (11, true)) (.pure (.bin .lss (.t 12) (.t 14)))), 
  (.mk (some 16) none (.pure (.pick (.t 11) (.t 15) (.c (.b false)))))]) (.cond (.t 16) .skip (.exit 0))) (.seq (.block 1 (.seq (.any [(
  (.mk (some 19) none (.pure (.mv (.t 0)))), false), (
  (.mk (some 20) none (.pure (.mv (.t 6)))), false), (
  (.mk (some 21) none (.pure (.ixS 1 (.t 19) (.t 20)))), false), (
  (.mk (some 22) none (.ld true 1 (.t 21))), false), (
  (.mk (some 23) none (.pure (.mv (.t 1)))), false), (
  (.mk (some 24) none (.pure (.mv (.t 6)))), false), (
  (.mk (some 25) none (.pure (.ixS 1 (.t 23) (.t 24)))), false), (
  (.mk (some 26) none (.ld true 1 (.t 25))), false), (
  (.mk (some 27) none (.pure (.bin .neq (.t 22) (.t 26)))), false)]) (.cond (.t 27) (.ops [
  (.mk (some 28) none (.pure (.mv (.t 5)))), 
  (.mk (some 29) none (.pure (.bin .add (.t 28) (.c (.i .i64 1))))), 
  (.mk (some 5) none (.pure (.mv (.t 29))))]) .skip))) (.ops [
  (.mk (some 17) none (.pure (.mv (.t 6)))), 
  (.mk (some 18) none (.pure (.bin .add (.t 17) (.c (.i .i64 1))))), 
  (.mk (some 6) none (.pure (.mv (.t 18))))])))))) (.seq (.ops [
  (.mk (some 30) none (.pure (.mv (.t 5)))), 
  (.mk (some 4) none (.pure (.mv (.t 30))))]) .ret)))))
def fn38 : AFn := (AFn.mk 63 [(.t 6)] (.seq (.ops [
  (.mk (some 6) none (.pure (.mv (.c (.i .i64 0)))))]) (.seq (.seq (.ops [
  (.mk (some 10) none (.pure (.mv (.t 0)))), 
  (.mk (some 11) none (.pure (.bin .lss (.t 10) (.c (.i .i64 1))))), 
  (.mk (some 12) none (.pure (.mv (.t 11)))), 
  (.mk (some 13) (some (12, false)) (.pure (.mv (.t 0)))), 
  (.mk (some 14) (some (12, false)) (.pure (.bin .gtr (.t 13) (.c (.i .i64 20))))), 
  (.mk (some 15) none (.pure (.pick (.t 12) (.c (.b true)) (.t 14))))]) (.cond (.t 15) (.seq (.ops [
  (.mk (some 6) none (.pure (.mv (.c (.i .i64 2)))))]) .ret) .skip)) (.seq (.seq (.ops [
  (.mk (some 16) none (.pure (.mv (.t 1)))), 
  (.mk (some 17) none (.pure (.len false (.t 16)))), 
  (.mk (some 18) none (.pure (.bin .gtr (.t 17) (.c (.i .i64 200)))))]) (.cond (.t 18) (.seq (.ops [
  (.mk (some 6) none (.pure (.mv (.c (.i .i64 3)))))]) .ret) .skip)) (.seq (.seq (.ops [
  (.mk (some 7) none (.pure (.mv (.c (.i .i64 0)))))]) (.block 0 (.loop (.seq (.seq (.ops [
  (.mk (some 19) none (.pure (.mv (.t 7)))), 
  (.mk (some 20) none (.pure (.mv (.t 1)))), 
  (.mk (some 21) none (.pure (.len false (.t 20)))), 
  (.mk (some 22) none (.pure (.bin .lss (.t 19) (.t 21))))]) (.cond (.t 22) .skip (.exit 0))) (.seq (.block 1 (.seq (.seq (.ops [
  (.mk (some 25) none (.pure (.mv (.t 1)))), 
  (.mk (some 26) none (.pure (.mv (.t 7)))), 
  (.mk (some 27) none (.pure (.ixS 1 (.t 25) (.t 26)))), 
  (.mk (some 28) none (.ld true 1 (.t 27))), 
  (.mk (some 29) none (.pure (.len false (.t 28)))), 
  (.mk (some 30) none (.pure (.mv (.t 0)))), 
  (.mk (some 31) none (.pure (.bin .neq (.t 29) (.t 30))))]) (.cond (.t 31) (.seq (.ops [
  (.mk (some 6) none (.pure (.mv (.c (.i .i64 2)))))]) .ret) .skip)) (.seq (.ops [
  (.mk (some 8) none (.pure (.mv (.c (.i .i64 0)))))]) (.block 2 (.loop (.seq (.seq (.ops [
  (.mk (some 32) none (.pure (.mv (.t 8)))), 
  (.mk (some 33) none (.pure (.mv (.t 0)))), 
  (.mk (some 34) none (.pure (.bin .lss (.t 32) (.t 33))))]) (.cond (.t 34) .skip (.exit 2))) (.seq (.block 3 (.seq (.ops [
  (.mk (some 37) none (.pure (.mv (.t 1)))), 
  (.mk (some 38) none (.pure (.mv (.t 7)))), 
  (.mk (some 39) none (.pure (.ixS 1 (.t 37) (.t 38)))), 
  (.mk (some 40) none (.ld true 1 (.t 39))), 
  (.mk (some 41) none (.pure (.mv (.t 8)))), 
  (.mk (some 42) none (.pure (.ixS 1 (.t 40) (.t 41)))), 
  (.mk (some 43) none (.ld true 1 (.t 42))), 
  (.mk (some 44) none (.call 65 [(.t 43)])), 
  (.mk (some 45) none (.pure (.not (.t 44))))]) (.cond (.t 45) (.seq (.ops [
  (.mk (some 6) none (.pure (.mv (.c (.i .i64 2)))))]) .ret) .skip))) (.ops [
  (.mk (some 35) none (.pure (.mv (.t 8)))), 
  (.mk (some 36) none (.pure (.bin .add (.t 35) (.c (.i .i64 1))))), 
  (.mk (some 8) none (.pure (.mv (.t 36))))])))))))) (.ops [
  (.mk (some 23) none (.pure (.mv (.t 7)))), 
  (.mk (some 24) none (.pure (.bin .add (.t 23) (.c (.i .i64 1))))), 
  (.mk (some 7) none (.pure (.mv (.t 24))))])))))) (.seq (.seq (.ops [
  (.mk (some 46) none (.pure (.mv (.t 2)))), 
  (.mk (some 47) none (.pure (.len false (.t 46)))), 
  (.mk (some 48) none (.pure (.mv (.t 1)))), 
  (.mk (some 49) none (.pure (.len false (.t 48)))), 
  (.mk (some 50) none (.pure (.bin .neq (.t 47) (.t 49))))]) (.cond (.t 50) (.seq (.ops [
  (.mk (some 6) none (.pure (.mv (.c (.i .i64 2)))))]) .ret) .skip)) (.seq (.seq (.ops [
  (.mk (some 9) none (.pure (.mv (.c (.i .i64 0)))))]) (.block 4 (.loop (.seq (.seq (.ops [
  (.mk (some 51) none (.pure (.mv (.t 9)))), 
  (.mk (some 52) none (.pure (.mv (.t 2)))), 
  (.mk (some 53) none (.pure (.len false (.t 52)))), 
  (.mk (some 54) none (.pure (.bin .lss (.t 51) (.t 53))))]) (.cond (.t 54) .skip (.exit 4))) (.seq (.block 5 (.seq (.ops [
  (.mk (some 57) none (.pure (.mv (.t 2)))), 
  (.mk (some 58) none (.pure (.mv (.t 9)))), 
  (.mk (some 59) none (.pure (.ixS 1 (.t 57) (.t 58)))), 
  (.mk (some 60) none (.ld true 1 (.t 59))), 
  (.mk (some 61) none (.call 65 [(.t 60)])), 
  (.mk (some 62) none (.pure (.not (.t 61))))]) (.cond (.t 62) (.seq (.ops [
  (.mk (some 6) none (.pure (.mv (.c (.i .i64 2)))))]) .ret) .skip))) (.ops [
  (.mk (some 55) none (.pure (.mv (.t 9)))), 
  (.mk (some 56) none (.pure (.bin .add (.t 55) (.c (.i .i64 1))))), 
  (.mk (some 9) none (.pure (.mv (.t 56))))])))))) (.seq (.ops [
  (.mk (some 6) none (.pure (.mv (.c (.i .i64 0)))))]) .ret))))))))
def fn49 : AFn := (AFn.mk 29 [(.t 6)] (.seq (.ops [
  (.mk (some 6) none (.pure (.mv (.c (.i .i64 0)))))]) (.seq (.seq (.ops [
  (.mk (some 7) none (.pure (.mv (.t 0)))), 
  (.mk (some 8) none (.pure (.bin .lss (.t 7) (.c (.i .i64 1))))), 
  (.mk (some 9) none (.pure (.mv (.t 8)))), 
  (.mk (some 10) (some (9, false)) (.pure (.mv (.t 0)))), 
  (.mk (some 11) (some (9, false)) (.pure (.bin .gtr (.t 10) (.c (.i .i64 20))))), 
  (.mk (some 12) none (.pure (.pick (.t 9) (.c (.b true)) (.t 11))))]) (.cond (.t 12) (.seq (.ops [
  (.mk (some 6) none (.pure (.mv (.c (.i .i64 2)))))]) .ret) .skip)) (.seq (.seq (.ops [
  (.mk (some 13) none (.pure (.mv (.t 1)))), 
  (.mk (some 14) none (.pure (.len false (.t 13)))), 
  (.mk (some 15) none (.pure (.bin .gtr (.t 14) (.c (.i .i64 200)))))]) (.cond (.t 15) (.seq (.ops [
  (.mk (some 6) none (.pure (.mv (.c (.i .i64 3)))))]) .ret) .skip)) (.seq (.seq (.ops [
  (.mk (some 16) none (.pure (.mv (.t 1)))), 
  (.mk (some 17) none (.pure (.mv (.t 1)))), 
  (.mk (some 18) none (.pure (.len false (.t 17)))), 
  (.mk (some 19) none (.pure (.mv (.t 0)))), 
  (.mk (some 20) none (.call 68 [(.t 16), (.t 18), (.t 19)])), 
  (.mk (some 21) none (.pure (.not (.t 20)))), 
  (.mk (some 22) none (.pure (.mv (.t 21)))), 
  (.mk (some 23) (some (22, false)) (.pure (.mv (.t 2)))), 
  (.mk (some 24) (some (22, false)) (.pure (.mv (.t 1)))), 
  (.mk (some 25) (some (22, false)) (.pure (.len false (.t 24)))), 
  (.mk (some 26) (some (22, false)) (.call 61 [(.t 23), (.t 25)])), 
  (.mk (some 27) (some (22, false)) (.pure (.not (.t 26)))), 
  (.mk (some 28) none (.pure (.pick (.t 22) (.c (.b true)) (.t 27))))]) (.cond (.t 28) (.seq (.ops [
  (.mk (some 6) none (.pure (.mv (.c (.i .i64 2)))))]) .ret) .skip)) (.seq (.ops [
  (.mk (some 6) none (.pure (.mv (.c (.i .i64 0)))))]) .ret))))))
def fn50 : AFn := (AFn.mk 42 [(.t 6)] (.seq (.ops [
  (.mk (some 6) none (.pure (.mv (.c .nsl))))]) (.seq (.ops [
  (.mk (some 10) none (.pure (.mv (.t 1)))), 
  (.mk (some 11) none (.pure (.len false (.t 10)))), 
  (.mk (some 12) none (.mk 3 1 8 [(.i .i64 0)] (.t 11) (.t 11))), 
  (.mk (some 7) none (.pure (.mv (.t 12))))]) (.seq (.seq (.ops [
  (.mk (some 13) none (.pure (.mv (.t 1)))), 
  (.mk (some 14) none (.pure (.len false (.t 13)))), 
  (.mk (some 15) none (.pure (.mv (.c (.i .i64 0)))))]) (.block 0 (.loop (.seq (.ops [
  (.mk (some 16) none (.pure (.bin .lss (.t 15) (.t 14))))]) (.seq (.cond (.t 16) .skip (.exit 0)) (.seq (.block 1 (.seq (.ops [
  (.mk (some 17) none (.pure (.mv (.t 15)))), 
  (.mk (some 18) none (.pure (.ixS 1 (.t 13) (.t 15)))), 
  (.mk (some 19) none (.ld true 1 (.t 18))), 
  (.mk (some 8) none (.pure (.mv (.t 17)))), 
  (.mk (some 9) none (.pure (.mv (.t 19))))]) (.seq (.ops [
  (.mk (some 20) none (.pure (.mv (.t 7)))), 
  (.mk (some 21) none (.pure (.mv (.t 8)))), 
  (.mk (some 22) none (.pure (.mv (.t 0)))), 
  (.mk (some 23) none (.pure (.mv (.t 9)))), 
  (.mk (some 24) none (.calli [(71, (99, [])), (74, (103, [])), (75, (99, [(0, (1, false))])), (76, (105, []))] (.t 22) [(.t 23)])), 
  (.mk (some 25) none (.pure (.ixS 1 (.t 20) (.t 21)))), 
  (.mk none none (.st 1 (.t 25) (.t 24)))]) (.seq (.ops [
  (.mk (some 26) none (.pure (.mv (.t 0)))), 
  (.mk (some 27) none (.pure (.mv (.t 9)))), 
  (.mk (some 28) none (.pure (.mv (.t 7)))), 
  (.mk (some 29) none (.pure (.mv (.t 8)))), 
  (.mk (some 30) none (.pure (.ixS 1 (.t 28) (.t 29)))), 
  (.mk (some 32) none (.pure (.mv (.t 2)))), 
  (.mk (some 33) none (.pure (.mv (.t 8)))), 
  (.mk (some 34) none (.pure (.ixS 1 (.t 32) (.t 33)))), 
  (.mk (some 36) none (.pure (.mkbm "dibber/luck.learn" (.t 26)))), 
  (.mk (some 37) none (.pure (.nilm [("Error", [(8, (84, [])), (10, (86, [])), (11, (88, [])), (14, (90, [])), (19, (97, []))]), ("RuntimeError", [(8, (85, [])), (10, (87, [])), (11, (89, [])), (14, (91, [])), (19, (98, []))]), ("dibber/luck.foretell", [(71, (99, [])), (74, (103, [])), (75, (99, [(0, (1, false))])), (76, (105, []))]), ("dibber/luck.learn", [(71, (100, [])), (74, (104, [])), (75, (100, [(0, (1, false))])), (76, (100, [(0, (1, false))]))]), ("String", [(116, (106, []))])] (.t 36)))), 
  (.mk (some 38) none (.pure (.mv (.t 26))))]) (.seq (.any [(
  (.mk (some 31) none (.ld true 1 (.t 30))), false), (
  (.mk (some 35) none (.ld true 1 (.t 34))), false)]) (.ops [
  (.mk (some 39) none (.calli [(71, (100, [])), (74, (104, [])), (75, (100, [(0, (1, false))])), (76, (100, [(0, (1, false))]))] (.t 38) [(.t 27), (.t 31), (.t 35)]))])))))) (.ops [
  (.mk (some 40) none (.pure (.bin .add (.t 15) (.c (.i .i64 1))))), 
  (.mk (some 15) none (.pure (.mv (.t 40))))]))))))) (.seq (.ops [
  (.mk (some 41) none (.pure (.mv (.t 7)))), 
  (.mk (some 6) none (.pure (.mv (.t 41))))]) .ret)))))
def fn51 : AFn := (AFn.mk 48 [(.t 4)] (.seq (.ops [
  (.mk (some 4) none (.pure (.mv (.c .nsl))))]) (.seq (.seq (.ops [
  (.mk (some 9) none (.pure (.mv (.t 1)))), 
  (.mk (some 10) none (.pure (.bin .lss (.t 9) (.c (.i .i64 0)))))]) (.cond (.t 10) (.ops [
  (.mk none none (.ld true 1 (.c (.b true))))]) .skip)) (.seq (.ops [
  (.mk (some 13) none (.pure (.mv (.t 0)))), 
  (.mk (some 14) none (.pure (.len false (.t 13)))), 
  (.mk (some 15) none (.pure (.conv .u64 (.t 14)))), 
  (.mk (some 16) none (.pure (.mv (.t 1)))), 
  (.mk (some 17) none (.pure (.conv .u64 (.t 16)))), 
  (.mk (some 18) none (.call 73 [(.t 15), (.t 17)])), 
  (.mk (some 12) none (.pure (.mv (.t 18)))), 
  (.mk (some 19) none (.pure (.ext 0 (.t 12)))), 
  (.mk (some 20) none (.pure (.ext 1 (.t 12)))), 
  (.mk (some 5) none (.pure (.mv (.t 19)))), 
  (.mk (some 6) none (.pure (.mv (.t 20))))]) (.seq (.seq (.ops [
  (.mk (some 21) none (.pure (.mv (.t 5)))), 
  (.mk (some 22) none (.pure (.bin .gtr (.t 21) (.c (.i .u64 0))))), 
  (.mk (some 23) none (.pure (.mv (.t 22)))), 
  (.mk (some 24) (some (23, false)) (.pure (.mv (.t 6)))), 
  (.mk (some 25) (some (23, false)) (.pure (.bin .gtr (.t 24) (.c (.i .u64 9223372036854775807))))), 
  (.mk (some 26) none (.pure (.pick (.t 23) (.c (.b true)) (.t 25))))]) (.cond (.t 26) (.ops [
  (.mk none none (.ld true 1 (.c (.b true))))]) .skip)) (.seq (.ops [
  (.mk (some 28) none (.pure (.mv (.t 6)))), 
  (.mk (some 29) none (.pure (.conv .i64 (.t 28)))), 
  (.mk (some 30) none (.mk 3 1 8 [(.i .i64 0)] (.t 29) (.t 29))), 
  (.mk (some 7) none (.pure (.mv (.t 30))))]) (.seq (.ops [
  (.mk (some 31) none (.pure (.mv (.t 7)))), 
  (.mk (some 32) none (.pure (.mv (.t 0)))), 
  (.mk (some 33) none (.cpy 1 (.t 31) (.t 32))), 
  (.mk (some 8) none (.pure (.mv (.t 33))))]) (.seq (.block 0 (.loop (.seq (.seq (.ops [
  (.mk (some 34) none (.pure (.mv (.t 8)))), 
  (.mk (some 35) none (.pure (.mv (.t 7)))), 
  (.mk (some 36) none (.pure (.len false (.t 35)))), 
  (.mk (some 37) none (.pure (.bin .lss (.t 34) (.t 36))))]) (.cond (.t 37) .skip (.exit 0))) (.block 1 (.ops [
  (.mk (some 38) none (.pure (.mv (.t 8)))), 
  (.mk (some 39) none (.pure (.mv (.t 7)))), 
  (.mk (some 40) none (.pure (.mv (.t 8)))), 
  (.mk (some 41) none (.pure (.slS 1 (.t 39) (some (.t 40)) none none))), 
  (.mk (some 42) none (.pure (.mv (.t 7)))), 
  (.mk (some 43) none (.pure (.mv (.t 8)))), 
  (.mk (some 44) none (.pure (.slS 1 (.t 42) none (some (.t 43)) none))), 
  (.mk (some 45) none (.cpy 1 (.t 41) (.t 44))), 
  (.mk (some 46) none (.pure (.bin .add (.t 38) (.t 45)))), 
  (.mk (some 8) none (.pure (.mv (.t 46))))]))))) (.seq (.ops [
  (.mk (some 47) none (.pure (.mv (.t 7)))), 
  (.mk (some 4) none (.pure (.mv (.t 47))))]) .ret)))))))))
def fn58 : AFn := (AFn.mk 35 [(.t 4)] (.seq (.ops [
  (.mk (some 4) none (.pure (.mv (.c (.b false)))))]) (.seq (.seq (.ops [
  (.mk (some 7) none (.pure (.mv (.t 0)))), 
  (.mk (some 8) none (.pure (.bin .lss (.t 7) (.c (.i .i64 1))))), 
  (.mk (some 9) none (.pure (.mv (.t 8)))), 
  (.mk (some 10) (some (9, false)) (.pure (.mv (.t 0)))), 
  (.mk (some 11) (some (9, false)) (.pure (.bin .gtr (.t 10) (.c (.i .i64 10))))), 
  (.mk (some 12) none (.pure (.pick (.t 9) (.c (.b true)) (.t 11)))), 
  (.mk (some 13) none (.pure (.mv (.t 12)))), 
  (.mk (some 14) (some (13, false)) (.pure (.mv (.t 1)))), 
  (.mk (some 15) (some (13, false)) (.pure (.len false (.t 14)))), 
  (.mk (some 16) (some (13, false)) (.pure (.mv (.t 0)))), 
  (.mk (some 17) (some (13, false)) (.pure (.bin .shl (.c (.i .i64 1)) (.t 16)))), 
  (.mk (some 18) (some (13, false)) (.pure (.bin .neq (.t 15) (.t 17)))), 
  (.mk (some 19) none (.pure (.pick (.t 13) (.c (.b true)) (.t 18))))]) (.cond (.t 19) (.seq (.ops [
  (.mk (some 4) none (.pure (.mv (.c (.b false)))))]) .ret) .skip)) (.seq (.seq (.ops [
  (.mk (some 20) none (.pure (.mv (.t 1)))), 
  (.mk (some 21) none (.pure (.len false (.t 20)))), 
  (.mk (some 22) none (.pure (.mv (.c (.i .i64 0)))))]) (.block 0 (.loop (.seq (.ops [
  (.mk (some 23) none (.pure (.bin .lss (.t 22) (.t 21))))]) (.seq (.cond (.t 23) .skip (.exit 0)) (.seq (.block 1 (.seq (.ops [
  (.mk (some 24) none (.pure (.ixS 1 (.t 20) (.t 22)))), 
  (.mk (some 25) none (.ld true 1 (.t 24))), 
  (.mk (some 6) none (.pure (.mv (.t 25))))]) (.seq (.ops [
  (.mk (some 26) none (.pure (.mv (.t 6)))), 
  (.mk (some 27) none (.pure (.bin .lss (.t 26) (.c (.i .i64 0))))), 
  (.mk (some 28) none (.pure (.mv (.t 27)))), 
  (.mk (some 29) (some (28, false)) (.pure (.mv (.t 6)))), 
  (.mk (some 30) (some (28, false)) (.pure (.mv (.t 0)))), 
  (.mk (some 31) (some (28, false)) (.pure (.bin .mul (.t 30) (.c (.i .i64 60))))), 
  (.mk (some 32) (some (28, false)) (.pure (.bin .gtr (.t 29) (.t 31)))), 
  (.mk (some 33) none (.pure (.pick (.t 28) (.c (.b true)) (.t 32))))]) (.cond (.t 33) (.seq (.ops [
  (.mk (some 4) none (.pure (.mv (.c (.b false)))))]) .ret) .skip)))) (.ops [
  (.mk (some 34) none (.pure (.bin .add (.t 22) (.c (.i .i64 1))))), 
  (.mk (some 22) none (.pure (.mv (.t 34))))]))))))) (.seq (.ops [
  (.mk (some 4) none (.pure (.mv (.c (.b true)))))]) .ret)))))
def fn59 : AFn := (AFn.mk 32 [(.t 2)] (.seq (.ops [
  (.mk (some 2) none (.pure (.mv (.c (.i .i64 0)))))]) (.seq (.seq (.ops [
  (.mk (some 6) none (.pure (.mv (.t 0)))), 
  (.mk (some 7) none (.pure (.len false (.t 6)))), 
  (.mk (some 8) none (.pure (.bin .eql (.t 7) (.c (.i .i64 1)))))]) (.cond (.t 8) (.seq (.ops [
  (.mk (some 9) none (.pure (.mv (.t 0)))), 
  (.mk (some 10) none (.pure (.ixS 1 (.t 9) (.c (.i .i64 0))))), 
  (.mk (some 11) none (.ld true 1 (.t 10))), 
  (.mk (some 2) none (.pure (.mv (.t 11))))]) .ret) .skip)) (.seq (.ops [
  (.mk (some 12) none (.pure (.mv (.t 0)))), 
  (.mk (some 13) none (.call 62 [(.t 12), (.c (.i .i64 0))])), 
  (.mk (some 14) none (.call 59 [(.t 13)])), 
  (.mk (some 15) none (.pure (.mv (.t 0)))), 
  (.mk (some 16) none (.call 62 [(.t 15), (.c (.i .i64 1))])), 
  (.mk (some 17) none (.call 59 [(.t 16)])), 
  (.mk (some 3) none (.pure (.mv (.t 14)))), 
  (.mk (some 4) none (.pure (.mv (.t 17))))]) (.seq (.ops [
  (.mk (some 18) none (.pure (.mv (.t 3)))), 
  (.mk (some 19) none (.pure (.mv (.t 4)))), 
  (.mk (some 20) none (.pure (.bin .add (.t 18) (.t 19)))), 
  (.mk (some 21) none (.pure (.mv (.t 0)))), 
  (.mk (some 22) none (.pure (.len false (.t 21)))), 
  (.mk (some 23) none (.pure (.bin .mul (.c (.i .i64 60)) (.t 22)))), 
  (.mk (some 24) none (.pure (.bin .quo (.t 23) (.c (.i .i64 2))))), 
  (.mk (some 25) none (.pure (.bin .sub (.t 20) (.t 24)))), 
  (.mk (some 5) none (.pure (.mv (.t 25))))]) (.seq (.ops [
  (.mk (some 26) none (.pure (.mv (.t 5)))), 
  (.mk (some 27) none (.pure (.mv (.t 3)))), 
  (.mk (some 28) none (.pure (.bin .mul (.c (.i .i64 2)) (.t 27)))), 
  (.mk (some 29) none (.pure (.mv (.t 4)))), 
  (.mk (some 30) none (.pure (.bin .mul (.c (.i .i64 2)) (.t 29)))), 
  (.mk (some 31) none (.pure (.mx3 false (.t 26) (.t 28) (.t 30)))), 
  (.mk (some 2) none (.pure (.mv (.t 31))))]) .ret))))))
def fn61 : AFn := (AFn.mk 24 [(.t 4)] (.seq (.ops [
  (.mk (some 4) none (.pure (.mv (.c (.b false)))))]) (.seq (.seq (.ops [
  (.mk (some 7) none (.pure (.mv (.t 0)))), 
  (.mk (some 8) none (.pure (.len false (.t 7)))), 
  (.mk (some 9) none (.pure (.mv (.c (.i .i64 0)))))]) (.block 0 (.loop (.seq (.ops [
  (.mk (some 10) none (.pure (.bin .lss (.t 9) (.t 8))))]) (.seq (.cond (.t 10) .skip (.exit 0)) (.seq (.block 1 (.seq (.ops [
  (.mk (some 11) none (.pure (.ixS 1 (.t 7) (.t 9)))), 
  (.mk (some 12) none (.ld true 1 (.t 11))), 
  (.mk (some 6) none (.pure (.mv (.t 12))))]) (.seq (.ops [
  (.mk (some 13) none (.pure (.mv (.t 6)))), 
  (.mk (some 14) none (.pure (.bin .neq (.t 13) (.c (.i .i64 0))))), 
  (.mk (some 15) none (.pure (.mv (.t 14)))), 
  (.mk (some 16) (some (15, true)) (.pure (.mv (.t 6)))), 
  (.mk (some 17) (some (15, true)) (.pure (.bin .neq (.t 16) (.c (.i .i64 1))))), 
  (.mk (some 18) none (.pure (.pick (.t 15) (.t 17) (.c (.b false)))))]) (.cond (.t 18) (.seq (.ops [
  (.mk (some 4) none (.pure (.mv (.c (.b false)))))]) .ret) .skip)))) (.ops [
  (.mk (some 19) none (.pure (.bin .add (.t 9) (.c (.i .i64 1))))), 
  (.mk (some 9) none (.pure (.mv (.t 19))))]))))))) (.seq (.ops [
  (.mk (some 20) none (.pure (.mv (.t 0)))), 
  (.mk (some 21) none (.pure (.len false (.t 20)))), 
  (.mk (some 22) none (.pure (.mv (.t 1)))), 
  (.mk (some 23) none (.pure (.bin .eql (.t 21) (.t 22)))), 
  (.mk (some 4) none (.pure (.mv (.t 23))))]) .ret))))
def fn62 : AFn := (AFn.mk 17 [(.t 4)] (.seq (.ops [
  (.mk (some 4) none (.pure (.mv (.c .nsl))))]) (.seq (.ops [
  (.mk (some 6) none (.pure (.mv (.t 0)))), 
  (.mk (some 7) none (.pure (.len false (.t 6)))), 
  (.mk (some 8) none (.pure (.bin .quo (.t 7) (.c (.i .i64 2))))), 
  (.mk (some 5) none (.pure (.mv (.t 8))))]) (.seq (.seq (.ops [
  (.mk (some 9) none (.pure (.mv (.t 1)))), 
  (.mk (some 10) none (.pure (.bin .eql (.t 9) (.c (.i .i64 0)))))]) (.cond (.t 10) (.seq (.ops [
  (.mk (some 11) none (.pure (.mv (.t 0)))), 
  (.mk (some 12) none (.pure (.mv (.t 5)))), 
  (.mk (some 13) none (.pure (.slS 1 (.t 11) none (some (.t 12)) none))), 
  (.mk (some 4) none (.pure (.mv (.t 13))))]) .ret) .skip)) (.seq (.ops [
  (.mk (some 14) none (.pure (.mv (.t 0)))), 
  (.mk (some 15) none (.pure (.mv (.t 5)))), 
  (.mk (some 16) none (.pure (.slS 1 (.t 14) (some (.t 15)) none none))), 
  (.mk (some 4) none (.pure (.mv (.t 16))))]) .ret)))))
def fn63 : AFn := (AFn.mk 22 [(.c 4 false 2)] (.seq (.ops [
  (.mk (some 4) none (.al 42 [(.i .i64 0), (.i .i64 0)]))]) (.seq (.ops [
  (.mk (some 7) none (.pure (.mv (.t 0)))), 
  (.mk (some 8) none (.pure (.mv (.t 1)))), 
  (.mk (some 5) none (.pure (.mv (.t 7)))), 
  (.mk (some 6) none (.pure (.mv (.t 8))))]) (.seq (.block 0 (.loop (.seq (.seq (.ops [
  (.mk (some 9) none (.pure (.mv (.t 6)))), 
  (.mk (some 10) none (.pure (.bin .neq (.t 9) (.c (.i .i64 0)))))]) (.cond (.t 10) .skip (.exit 0))) (.block 1 (.ops [
  (.mk (some 11) none (.pure (.mv (.t 6)))), 
  (.mk (some 12) none (.pure (.mv (.t 5)))), 
  (.mk (some 13) none (.pure (.mv (.t 6)))), 
  (.mk (some 14) none (.pure (.bin .rem (.t 12) (.t 13)))), 
  (.mk (some 5) none (.pure (.mv (.t 11)))), 
  (.mk (some 6) none (.pure (.mv (.t 14))))]))))) (.seq (.ops [
  (.mk (some 15) none (.pure (.mv (.t 0)))), 
  (.mk (some 16) none (.pure (.mv (.t 5)))), 
  (.mk (some 17) none (.pure (.bin .quo (.t 15) (.t 16)))), 
  (.mk (some 18) none (.pure (.mv (.t 1)))), 
  (.mk (some 19) none (.pure (.mv (.t 5)))), 
  (.mk (some 20) none (.pure (.bin .quo (.t 18) (.t 19)))), 
  (.mk (some 21) none (.pure (.build [(.i .i64 0), (.i .i64 0)] [((0, 1), (.t 17)), ((1, 1), (.t 20))]))), 
  (.mk none none (.st 2 (.t 4) (.t 21)))]) .ret)))))
def fn64 : AFn := (AFn.mk 22 [(.t 2), (.t 3)] (.seq (.ops [
  (.mk (some 2) none (.pure (.mv (.c (.i .i64 0))))), 
  (.mk (some 3) none (.pure (.mv (.c (.i .i64 0)))))]) (.seq (.ops [
  (.mk (some 4) none (.pure (.mv (.t 0)))), 
  (.mk (some 5) none (.pure (.len false (.t 4)))), 
  (.mk (some 6) none (.pure (.bin .mul (.c (.i .i64 60)) (.t 5)))), 
  (.mk (some 3) none (.pure (.mv (.t 6))))]) (.seq (.ops [
  (.mk (some 7) none (.pure (.mv (.t 3)))), 
  (.mk (some 8) none (.pure (.bin .quo (.t 7) (.c (.i .i64 2))))), 
  (.mk (some 9) none (.pure (.mv (.t 0)))), 
  (.mk (some 10) none (.call 62 [(.t 9), (.c (.i .i64 0))])), 
  (.mk (some 11) none (.call 76 [(.t 10)])), 
  (.mk (some 12) none (.pure (.bin .add (.t 8) (.t 11)))), 
  (.mk (some 13) none (.pure (.mv (.t 0)))), 
  (.mk (some 14) none (.call 62 [(.t 13), (.c (.i .i64 1))])), 
  (.mk (some 15) none (.call 76 [(.t 14)])), 
  (.mk (some 16) none (.pure (.bin .sub (.t 12) (.t 15)))), 
  (.mk (some 2) none (.pure (.mv (.t 16))))]) (.seq (.ops [
  (.mk (some 17) none (.pure (.mv (.t 2)))), 
  (.mk (some 18) none (.pure (.mv (.t 3)))), 
  (.mk (some 19) none (.pure (.mx false (.t 17) (.t 18)))), 
  (.mk (some 20) none (.pure (.mx true (.c (.i .i64 0)) (.t 19)))), 
  (.mk (some 21) none (.pure (.mv (.t 3)))), 
  (.mk (some 2) none (.pure (.mv (.t 20)))), 
  (.mk (some 3) none (.pure (.mv (.t 21))))]) .ret)))))
def fn65 : AFn := (AFn.mk 9 [(.t 2)] (.seq (.ops [
  (.mk (some 2) none (.pure (.mv (.c (.b false)))))]) (.seq (.ops [
  (.mk (some 3) none (.pure (.mv (.t 0)))), 
  (.mk (some 4) none (.pure (.bin .eql (.t 3) (.c (.i .i64 0))))), 
  (.mk (some 5) none (.pure (.mv (.t 4)))), 
  (.mk (some 6) (some (5, false)) (.pure (.mv (.t 0)))), 
  (.mk (some 7) (some (5, false)) (.pure (.bin .eql (.t 6) (.c (.i .i64 1))))), 
  (.mk (some 8) none (.pure (.pick (.t 5) (.c (.b true)) (.t 7)))), 
  (.mk (some 2) none (.pure (.mv (.t 8))))]) .ret)))
def fn68 : AFn := (AFn.mk 24 [(.t 6)] (.seq (.ops [
  (.mk (some 6) none (.pure (.mv (.c (.b false)))))]) (.seq (.seq (.ops [
  (.mk (some 9) none (.pure (.mv (.t 0)))), 
  (.mk (some 10) none (.pure (.len false (.t 9)))), 
  (.mk (some 11) none (.pure (.mv (.c (.i .i64 0)))))]) (.block 0 (.loop (.seq (.ops [
  (.mk (some 12) none (.pure (.bin .lss (.t 11) (.t 10))))]) (.seq (.cond (.t 12) .skip (.exit 0)) (.seq (.block 1 (.seq (.ops [
  (.mk (some 13) none (.pure (.ixS 1 (.t 9) (.t 11)))), 
  (.mk (some 14) none (.ld true 1 (.t 13))), 
  (.mk (some 8) none (.pure (.mv (.t 14))))]) (.seq (.ops [
  (.mk (some 15) none (.pure (.mv (.t 8)))), 
  (.mk (some 16) none (.pure (.mv (.t 2)))), 
  (.mk (some 17) none (.call 61 [(.t 15), (.t 16)])), 
  (.mk (some 18) none (.pure (.not (.t 17))))]) (.cond (.t 18) (.seq (.ops [
  (.mk (some 6) none (.pure (.mv (.c (.b false)))))]) .ret) .skip)))) (.ops [
  (.mk (some 19) none (.pure (.bin .add (.t 11) (.c (.i .i64 1))))), 
  (.mk (some 11) none (.pure (.mv (.t 19))))]))))))) (.seq (.ops [
  (.mk (some 20) none (.pure (.mv (.t 0)))), 
  (.mk (some 21) none (.pure (.len false (.t 20)))), 
  (.mk (some 22) none (.pure (.mv (.t 1)))), 
  (.mk (some 23) none (.pure (.bin .eql (.t 21) (.t 22)))), 
  (.mk (some 6) none (.pure (.mv (.t 23))))]) .ret))))
def fn69 : AFn := (AFn.mk 23 [(.t 4)] (.seq (.ops [
  (.mk (some 4) none (.pure (.mv (.c (.i .i64 0)))))]) (.seq (.ops [
  (.mk (some 5) none (.pure (.mv (.c (.i .i64 10)))))]) (.seq (.seq (.ops [
  (.mk (some 8) none (.pure (.mv (.t 0)))), 
  (.mk (some 9) none (.pure (.len false (.t 8)))), 
  (.mk (some 10) none (.pure (.mv (.c (.i .i64 0)))))]) (.block 0 (.loop (.seq (.ops [
  (.mk (some 11) none (.pure (.bin .lss (.t 10) (.t 9))))]) (.seq (.cond (.t 11) .skip (.exit 0)) (.seq (.block 1 (.seq (.ops [
  (.mk (some 12) none (.pure (.ixS 1 (.t 8) (.t 10)))), 
  (.mk (some 13) none (.ld true 1 (.t 12))), 
  (.mk (some 7) none (.pure (.mv (.t 13))))]) (.ops [
  (.mk (some 14) none (.pure (.mv (.t 5)))), 
  (.mk (some 15) none (.pure (.mv (.t 7)))), 
  (.mk (some 16) none (.pure (.mv (.t 1)))), 
  (.mk (some 17) none (.pure (.bin .xor (.t 15) (.t 16)))), 
  (.mk (some 18) none (.pure (.conv .u64 (.t 17)))), 
  (.mk (some 19) none (.call 78 [(.t 18)])), 
  (.mk (some 20) none (.pure (.mx false (.t 14) (.t 19)))), 
  (.mk (some 5) none (.pure (.mv (.t 20))))]))) (.ops [
  (.mk (some 21) none (.pure (.bin .add (.t 10) (.c (.i .i64 1))))), 
  (.mk (some 10) none (.pure (.mv (.t 21))))]))))))) (.seq (.ops [
  (.mk (some 22) none (.pure (.mv (.t 5)))), 
  (.mk (some 4) none (.pure (.mv (.t 22))))]) .ret)))))
def fn73 : AFn := (AFn.mk 30 [(.t 4), (.t 5)] (.seq (.ops [
  (.mk (some 4) none (.pure (.mv (.c (.i .u64 0))))), 
  (.mk (some 5) none (.pure (.mv (.c (.i .u64 0)))))]) (.seq (.cond (.c (.b false)) (.seq (.ops [
  (.mk (some 11) none (.pure (.mv (.t 0)))), 
  (.mk (some 12) none (.pure (.conv .u32 (.t 11)))), 
  (.mk (some 13) none (.pure (.mv (.t 1)))), 
  (.mk (some 14) none (.pure (.conv .u32 (.t 13)))), 
  (.mk (some 15) none (.call 80 [(.t 12), (.t 14)])), 
  (.mk (some 10) none (.pure (.mv (.t 15)))), 
  (.mk (some 16) none (.pure (.ext 0 (.t 10)))), 
  (.mk (some 17) none (.pure (.ext 1 (.t 10)))), 
  (.mk (some 6) none (.pure (.mv (.t 16)))), 
  (.mk (some 7) none (.pure (.mv (.t 17))))]) (.seq (.ops [
  (.mk (some 18) none (.pure (.mv (.t 6)))), 
  (.mk (some 19) none (.pure (.conv .u64 (.t 18)))), 
  (.mk (some 20) none (.pure (.mv (.t 7)))), 
  (.mk (some 21) none (.pure (.conv .u64 (.t 20)))), 
  (.mk (some 4) none (.pure (.mv (.t 19)))), 
  (.mk (some 5) none (.pure (.mv (.t 21))))]) .ret)) .skip) (.seq (.ops [
  (.mk (some 23) none (.pure (.mv (.t 0)))), 
  (.mk (some 24) none (.pure (.mv (.t 1)))), 
  (.mk (some 25) none (.call 81 [(.t 23), (.t 24)])), 
  (.mk (some 22) none (.pure (.mv (.t 25)))), 
  (.mk (some 26) none (.pure (.ext 0 (.t 22)))), 
  (.mk (some 27) none (.pure (.ext 1 (.t 22)))), 
  (.mk (some 8) none (.pure (.mv (.t 26)))), 
  (.mk (some 9) none (.pure (.mv (.t 27))))]) (.seq (.ops [
  (.mk (some 28) none (.pure (.mv (.t 8)))), 
  (.mk (some 29) none (.pure (.mv (.t 9)))), 
  (.mk (some 4) none (.pure (.mv (.t 28)))), 
  (.mk (some 5) none (.pure (.mv (.t 29))))]) .ret)))))
def fn76 : AFn := (AFn.mk 17 [(.t 2)] (.seq (.ops [
  (.mk (some 2) none (.pure (.mv (.c (.i .i64 0)))))]) (.seq (.ops [
  (.mk (some 3) none (.pure (.mv (.c (.i .i64 0)))))]) (.seq (.seq (.ops [
  (.mk (some 6) none (.pure (.mv (.t 0)))), 
  (.mk (some 7) none (.pure (.len false (.t 6)))), 
  (.mk (some 8) none (.pure (.mv (.c (.i .i64 0)))))]) (.block 0 (.loop (.seq (.ops [
  (.mk (some 9) none (.pure (.bin .lss (.t 8) (.t 7))))]) (.seq (.cond (.t 9) .skip (.exit 0)) (.seq (.block 1 (.seq (.ops [
  (.mk (some 10) none (.pure (.ixS 1 (.t 6) (.t 8)))), 
  (.mk (some 11) none (.ld true 1 (.t 10))), 
  (.mk (some 5) none (.pure (.mv (.t 11))))]) (.ops [
  (.mk (some 12) none (.pure (.mv (.t 3)))), 
  (.mk (some 13) none (.pure (.mv (.t 5)))), 
  (.mk (some 14) none (.pure (.bin .add (.t 12) (.t 13)))), 
  (.mk (some 3) none (.pure (.mv (.t 14))))]))) (.ops [
  (.mk (some 15) none (.pure (.bin .add (.t 8) (.c (.i .i64 1))))), 
  (.mk (some 8) none (.pure (.mv (.t 15))))]))))))) (.seq (.ops [
  (.mk (some 16) none (.pure (.mv (.t 3)))), 
  (.mk (some 2) none (.pure (.mv (.t 16))))]) .ret)))))
def fn78 : AFn := (AFn.mk 8 [(.t 2)] (.seq (.ops [
  (.mk (some 2) none (.pure (.mv (.c (.i .i64 0)))))]) (.seq (.cond (.c (.b false)) (.seq (.ops [
  (.mk (some 3) none (.pure (.mv (.t 0)))), 
  (.mk (some 4) none (.pure (.conv .u32 (.t 3)))), 
  (.mk (some 5) none (.call 82 [(.t 4)])), 
  (.mk (some 2) none (.pure (.mv (.t 5))))]) .ret) .skip) (.seq (.ops [
  (.mk (some 6) none (.pure (.mv (.t 0)))), 
  (.mk (some 7) none (.call 83 [(.t 6)])), 
  (.mk (some 2) none (.pure (.mv (.t 7))))]) .ret))))
def fn80 : AFn := (AFn.mk 17 [(.t 4), (.t 5)] (.seq (.ops [
  (.mk (some 4) none (.pure (.mv (.c (.i .u32 0))))), 
  (.mk (some 5) none (.pure (.mv (.c (.i .u32 0)))))]) (.seq (.ops [
  (.mk (some 7) none (.pure (.mv (.t 0)))), 
  (.mk (some 8) none (.pure (.conv .u64 (.t 7)))), 
  (.mk (some 9) none (.pure (.mv (.t 1)))), 
  (.mk (some 10) none (.pure (.conv .u64 (.t 9)))), 
  (.mk (some 11) none (.pure (.bin .mul (.t 8) (.t 10)))), 
  (.mk (some 6) none (.pure (.mv (.t 11))))]) (.seq (.ops [
  (.mk (some 12) none (.pure (.mv (.t 6)))), 
  (.mk (some 13) none (.pure (.bin .shr (.t 12) (.c (.i .u64 32))))), 
  (.mk (some 14) none (.pure (.conv .u32 (.t 13)))), 
  (.mk (some 15) none (.pure (.mv (.t 6)))), 
  (.mk (some 16) none (.pure (.conv .u32 (.t 15)))), 
  (.mk (some 4) none (.pure (.mv (.t 14)))), 
  (.mk (some 5) none (.pure (.mv (.t 16))))]) .ret))))
def fn81 : AFn := (AFn.mk 51 [(.t 4), (.t 5)] (.seq (.ops [
  (.mk (some 4) none (.pure (.mv (.c (.i .u64 0))))), 
  (.mk (some 5) none (.pure (.mv (.c (.i .u64 0)))))]) (.seq (.ops [
  (.mk (some 14) none (.pure (.mv (.t 0)))), 
  (.mk (some 15) none (.pure (.bin .and (.t 14) (.c (.i .u64 4294967295))))), 
  (.mk (some 6) none (.pure (.mv (.t 15))))]) (.seq (.ops [
  (.mk (some 16) none (.pure (.mv (.t 0)))), 
  (.mk (some 17) none (.pure (.bin .shr (.t 16) (.c (.i .u64 32))))), 
  (.mk (some 7) none (.pure (.mv (.t 17))))]) (.seq (.ops [
  (.mk (some 18) none (.pure (.mv (.t 1)))), 
  (.mk (some 19) none (.pure (.bin .and (.t 18) (.c (.i .u64 4294967295))))), 
  (.mk (some 8) none (.pure (.mv (.t 19))))]) (.seq (.ops [
  (.mk (some 20) none (.pure (.mv (.t 1)))), 
  (.mk (some 21) none (.pure (.bin .shr (.t 20) (.c (.i .u64 32))))), 
  (.mk (some 9) none (.pure (.mv (.t 21))))]) (.seq (.ops [
  (.mk (some 22) none (.pure (.mv (.t 6)))), 
  (.mk (some 23) none (.pure (.mv (.t 8)))), 
  (.mk (some 24) none (.pure (.bin .mul (.t 22) (.t 23)))), 
  (.mk (some 10) none (.pure (.mv (.t 24))))]) (.seq (.ops [
  (.mk (some 25) none (.pure (.mv (.t 7)))), 
  (.mk (some 26) none (.pure (.mv (.t 8)))), 
  (.mk (some 27) none (.pure (.bin .mul (.t 25) (.t 26)))), 
  (.mk (some 28) none (.pure (.mv (.t 10)))), 
  (.mk (some 29) none (.pure (.bin .shr (.t 28) (.c (.i .u64 32))))), 
  (.mk (some 30) none (.pure (.bin .add (.t 27) (.t 29)))), 
  (.mk (some 11) none (.pure (.mv (.t 30))))]) (.seq (.ops [
  (.mk (some 31) none (.pure (.mv (.t 11)))), 
  (.mk (some 32) none (.pure (.bin .and (.t 31) (.c (.i .u64 4294967295))))), 
  (.mk (some 12) none (.pure (.mv (.t 32))))]) (.seq (.ops [
  (.mk (some 33) none (.pure (.mv (.t 11)))), 
  (.mk (some 34) none (.pure (.bin .shr (.t 33) (.c (.i .u64 32))))), 
  (.mk (some 13) none (.pure (.mv (.t 34))))]) (.seq (.ops [
  (.mk (some 35) none (.pure (.mv (.t 12)))), 
  (.mk (some 36) none (.pure (.mv (.t 6)))), 
  (.mk (some 37) none (.pure (.mv (.t 9)))), 
  (.mk (some 38) none (.pure (.bin .mul (.t 36) (.t 37)))), 
  (.mk (some 39) none (.pure (.bin .add (.t 35) (.t 38)))), 
  (.mk (some 12) none (.pure (.mv (.t 39))))]) (.seq (.ops [
  (.mk (some 40) none (.pure (.mv (.t 7)))), 
  (.mk (some 41) none (.pure (.mv (.t 9)))), 
  (.mk (some 42) none (.pure (.bin .mul (.t 40) (.t 41)))), 
  (.mk (some 43) none (.pure (.mv (.t 13)))), 
  (.mk (some 44) none (.pure (.bin .add (.t 42) (.t 43)))), 
  (.mk (some 45) none (.pure (.mv (.t 12)))), 
  (.mk (some 46) none (.pure (.bin .shr (.t 45) (.c (.i .u64 32))))), 
  (.mk (some 47) none (.pure (.bin .add (.t 44) (.t 46)))), 
  (.mk (some 4) none (.pure (.mv (.t 47))))]) (.seq (.ops [
  (.mk (some 48) none (.pure (.mv (.t 0)))), 
  (.mk (some 49) none (.pure (.mv (.t 1)))), 
  (.mk (some 50) none (.pure (.bin .mul (.t 48) (.t 49)))), 
  (.mk (some 5) none (.pure (.mv (.t 50))))]) .ret)))))))))))))
def fn82 : AFn := (AFn.mk 21 [(.t 2)] (.seq (.ops [
  (.mk (some 2) none (.pure (.mv (.c (.i .i64 0)))))]) (.seq (.ops [
  (.mk (some 3) none (.pure (.mv (.t 0)))), 
  (.mk (some 4) none (.pure (.bin .shr (.t 3) (.c (.i .u64 24))))), 
  (.mk (some 5) none (.pure (.ixStr (.c (.s [0, 1, 1, 2, 1, 2, 2, 3, 1, 2, 2, 3, 2, 3, 3, 4, 1, 2, 2, 3, 2, 3, 3, 4, 2, 3, 3, 4, 3, 4, 4, 5, 1, 2, 2, 3, 2, 3, 3, 4, 2, 3, 3, 4, 3, 4, 4, 5, 2, 3, 3, 4, 3, 4, 4, 5, 3, 4, 4, 5, 4, 5, 5, 6, 1, 2, 2, 3, 2, 3, 3, 4, 2, 3, 3, 4, 3, 4, 4, 5, 2, 3, 3, 4, 3, 4, 4, 5, 3, 4, 4, 5, 4, 5, 5, 6, 2, 3, 3, 4, 3, 4, 4, 5, 3, 4, 4, 5, 4, 5, 5, 6, 3, 4, 4, 5, 4, 5, 5, 6, 4, 5, 5, 6, 5, 6, 6, 7, 1, 2, 2, 3, 2, 3, 3, 4, 2, 3, 3, 4, 3, 4, 4, 5, 2, 3, 3, 4, 3, 4, 4, 5, 3, 4, 4, 5, 4, 5, 5, 6, 2, 3, 3, 4, 3, 4, 4, 5, 3, 4, 4, 5, 4, 5, 5, 6, 3, 4, 4, 5, 4, 5, 5, 6, 4, 5, 5, 6, 5, 6, 6, 7, 2, 3, 3, 4, 3, 4, 4, 5, 3, 4, 4, 5, 4, 5, 5, 6, 3, 4, 4, 5, 4, 5, 5, 6, 4, 5, 5, 6, 5, 6, 6, 7, 3, 4, 4, 5, 4, 5, 5, 6, 4, 5, 5, 6, 5, 6, 6, 7, 4, 5, 5, 6, 5, 6, 6, 7, 5, 6, 6, 7, 6, 7, 7, 8])) (.t 4)))), 
  (.mk (some 6) none (.pure (.mv (.t 0)))), 
  (.mk (some 7) none (.pure (.bin .shr (.t 6) (.c (.i .u64 16))))), 
  (.mk (some 8) none (.pure (.bin .and (.t 7) (.c (.i .u32 255))))), 
  (.mk (some 9) none (.pure (.ixStr (.c (.s [0, 1, 1, 2, 1, 2, 2, 3, 1, 2, 2, 3, 2, 3, 3, 4, 1, 2, 2, 3, 2, 3, 3, 4, 2, 3, 3, 4, 3, 4, 4, 5, 1, 2, 2, 3, 2, 3, 3, 4, 2, 3, 3, 4, 3, 4, 4, 5, 2, 3, 3, 4, 3, 4, 4, 5, 3, 4, 4, 5, 4, 5, 5, 6, 1, 2, 2, 3, 2, 3, 3, 4, 2, 3, 3, 4, 3, 4, 4, 5, 2, 3, 3, 4, 3, 4, 4, 5, 3, 4, 4, 5, 4, 5, 5, 6, 2, 3, 3, 4, 3, 4, 4, 5, 3, 4, 4, 5, 4, 5, 5, 6, 3, 4, 4, 5, 4, 5, 5, 6, 4, 5, 5, 6, 5, 6, 6, 7, 1, 2, 2, 3, 2, 3, 3, 4, 2, 3, 3, 4, 3, 4, 4, 5, 2, 3, 3, 4, 3, 4, 4, 5, 3, 4, 4, 5, 4, 5, 5, 6, 2, 3, 3, 4, 3, 4, 4, 5, 3, 4, 4, 5, 4, 5, 5, 6, 3, 4, 4, 5, 4, 5, 5, 6, 4, 5, 5, 6, 5, 6, 6, 7, 2, 3, 3, 4, 3, 4, 4, 5, 3, 4, 4, 5, 4, 5, 5, 6, 3, 4, 4, 5, 4, 5, 5, 6, 4, 5, 5, 6, 5, 6, 6, 7, 3, 4, 4, 5, 4, 5, 5, 6, 4, 5, 5, 6, 5, 6, 6, 7, 4, 5, 5, 6, 5, 6, 6, 7, 5, 6, 6, 7, 6, 7, 7, 8])) (.t 8)))), 
  (.mk (some 10) none (.pure (.bin .add (.t 5) (.t 9)))), 
  (.mk (some 11) none (.pure (.mv (.t 0)))), 
  (.mk (some 12) none (.pure (.bin .shr (.t 11) (.c (.i .u64 8))))), 
  (.mk (some 13) none (.pure (.bin .and (.t 12) (.c (.i .u32 255))))), 
  (.mk (some 14) none (.pure (.ixStr (.c (.s [0, 1, 1, 2, 1, 2, 2, 3, 1, 2, 2, 3, 2, 3, 3, 4, 1, 2, 2, 3, 2, 3, 3, 4, 2, 3, 3, 4, 3, 4, 4, 5, 1, 2, 2, 3, 2, 3, 3, 4, 2, 3, 3, 4, 3, 4, 4, 5, 2, 3, 3, 4, 3, 4, 4, 5, 3, 4, 4, 5, 4, 5, 5, 6, 1, 2, 2, 3, 2, 3, 3, 4, 2, 3, 3, 4, 3, 4, 4, 5, 2, 3, 3, 4, 3, 4, 4, 5, 3, 4, 4, 5, 4, 5, 5, 6, 2, 3, 3, 4, 3, 4, 4, 5, 3, 4, 4, 5, 4, 5, 5, 6, 3, 4, 4, 5, 4, 5, 5, 6, 4, 5, 5, 6, 5, 6, 6, 7, 1, 2, 2, 3, 2, 3, 3, 4, 2, 3, 3, 4, 3, 4, 4, 5, 2, 3, 3, 4, 3, 4, 4, 5, 3, 4, 4, 5, 4, 5, 5, 6, 2, 3, 3, 4, 3, 4, 4, 5, 3, 4, 4, 5, 4, 5, 5, 6, 3, 4, 4, 5, 4, 5, 5, 6, 4, 5, 5, 6, 5, 6, 6, 7, 2, 3, 3, 4, 3, 4, 4, 5, 3, 4, 4, 5, 4, 5, 5, 6, 3, 4, 4, 5, 4, 5, 5, 6, 4, 5, 5, 6, 5, 6, 6, 7, 3, 4, 4, 5, 4, 5, 5, 6, 4, 5, 5, 6, 5, 6, 6, 7, 4, 5, 5, 6, 5, 6, 6, 7, 5, 6, 6, 7, 6, 7, 7, 8])) (.t 13)))), 
  (.mk (some 15) none (.pure (.bin .add (.t 10) (.t 14)))), 
  (.mk (some 16) none (.pure (.mv (.t 0)))), 
  (.mk (some 17) none (.pure (.bin .and (.t 16) (.c (.i .u32 255))))), 
  (.mk (some 18) none (.pure (.ixStr (.c (.s [0, 1, 1, 2, 1, 2, 2, 3, 1, 2, 2, 3, 2, 3, 3, 4, 1, 2, 2, 3, 2, 3, 3, 4, 2, 3, 3, 4, 3, 4, 4, 5, 1, 2, 2, 3, 2, 3, 3, 4, 2, 3, 3, 4, 3, 4, 4, 5, 2, 3, 3, 4, 3, 4, 4, 5, 3, 4, 4, 5, 4, 5, 5, 6, 1, 2, 2, 3, 2, 3, 3, 4, 2, 3, 3, 4, 3, 4, 4, 5, 2, 3, 3, 4, 3, 4, 4, 5, 3, 4, 4, 5, 4, 5, 5, 6, 2, 3, 3, 4, 3, 4, 4, 5, 3, 4, 4, 5, 4, 5, 5, 6, 3, 4, 4, 5, 4, 5, 5, 6, 4, 5, 5, 6, 5, 6, 6, 7, 1, 2, 2, 3, 2, 3, 3, 4, 2, 3, 3, 4, 3, 4, 4, 5, 2, 3, 3, 4, 3, 4, 4, 5, 3, 4, 4, 5, 4, 5, 5, 6, 2, 3, 3, 4, 3, 4, 4, 5, 3, 4, 4, 5, 4, 5, 5, 6, 3, 4, 4, 5, 4, 5, 5, 6, 4, 5, 5, 6, 5, 6, 6, 7, 2, 3, 3, 4, 3, 4, 4, 5, 3, 4, 4, 5, 4, 5, 5, 6, 3, 4, 4, 5, 4, 5, 5, 6, 4, 5, 5, 6, 5, 6, 6, 7, 3, 4, 4, 5, 4, 5, 5, 6, 4, 5, 5, 6, 5, 6, 6, 7, 4, 5, 5, 6, 5, 6, 6, 7, 5, 6, 6, 7, 6, 7, 7, 8])) (.t 17)))), 
  (.mk (some 19) none (.pure (.bin .add (.t 15) (.t 18)))), 
  (.mk (some 20) none (.pure (.conv .i64 (.t 19)))), 
  (.mk (some 2) none (.pure (.mv (.t 20))))]) .ret)))
def fn83 : AFn := (AFn.mk 35 [(.t 2)] (.seq (.ops [
  (.mk (some 2) none (.pure (.mv (.c (.i .i64 0)))))]) (.seq (.ops [
  (.mk (some 3) none (.pure (.mv (.t 0)))), 
  (.mk (some 4) none (.pure (.bin .shr (.t 3) (.c (.i .u64 1))))), 
  (.mk (some 5) none (.pure (.bin .and (.t 4) (.c (.i .u64 6148914691236517205))))), 
  (.mk (some 6) none (.pure (.mv (.t 0)))), 
  (.mk (some 7) none (.pure (.bin .and (.t 6) (.c (.i .u64 6148914691236517205))))), 
  (.mk (some 8) none (.pure (.bin .add (.t 5) (.t 7)))), 
  (.mk (some 0) none (.pure (.mv (.t 8))))]) (.seq (.ops [
  (.mk (some 9) none (.pure (.mv (.t 0)))), 
  (.mk (some 10) none (.pure (.bin .shr (.t 9) (.c (.i .u64 2))))), 
  (.mk (some 11) none (.pure (.bin .and (.t 10) (.c (.i .u64 3689348814741910323))))), 
  (.mk (some 12) none (.pure (.mv (.t 0)))), 
  (.mk (some 13) none (.pure (.bin .and (.t 12) (.c (.i .u64 3689348814741910323))))), 
  (.mk (some 14) none (.pure (.bin .add (.t 11) (.t 13)))), 
  (.mk (some 0) none (.pure (.mv (.t 14))))]) (.seq (.ops [
  (.mk (some 15) none (.pure (.mv (.t 0)))), 
  (.mk (some 16) none (.pure (.bin .shr (.t 15) (.c (.i .u64 4))))), 
  (.mk (some 17) none (.pure (.mv (.t 0)))), 
  (.mk (some 18) none (.pure (.bin .add (.t 16) (.t 17)))), 
  (.mk (some 19) none (.pure (.bin .and (.t 18) (.c (.i .u64 1085102592571150095))))), 
  (.mk (some 0) none (.pure (.mv (.t 19))))]) (.seq (.ops [
  (.mk (some 20) none (.pure (.mv (.t 0)))), 
  (.mk (some 21) none (.pure (.mv (.t 0)))), 
  (.mk (some 22) none (.pure (.bin .shr (.t 21) (.c (.i .u64 8))))), 
  (.mk (some 23) none (.pure (.bin .add (.t 20) (.t 22)))), 
  (.mk (some 0) none (.pure (.mv (.t 23))))]) (.seq (.ops [
  (.mk (some 24) none (.pure (.mv (.t 0)))), 
  (.mk (some 25) none (.pure (.mv (.t 0)))), 
  (.mk (some 26) none (.pure (.bin .shr (.t 25) (.c (.i .u64 16))))), 
  (.mk (some 27) none (.pure (.bin .add (.t 24) (.t 26)))), 
  (.mk (some 0) none (.pure (.mv (.t 27))))]) (.seq (.ops [
  (.mk (some 28) none (.pure (.mv (.t 0)))), 
  (.mk (some 29) none (.pure (.mv (.t 0)))), 
  (.mk (some 30) none (.pure (.bin .shr (.t 29) (.c (.i .u64 32))))), 
  (.mk (some 31) none (.pure (.bin .add (.t 28) (.t 30)))), 
  (.mk (some 0) none (.pure (.mv (.t 31))))]) (.seq (.ops [
  (.mk (some 32) none (.pure (.mv (.t 0)))), 
  (.mk (some 33) none (.pure (.conv .i64 (.t 32)))), 
  (.mk (some 34) none (.pure (.bin .and (.t 33) (.c (.i .i64 127))))), 
  (.mk (some 2) none (.pure (.mv (.t 34))))]) .ret)))))))))
def fn99 : AFn := (AFn.mk 28 [(.t 4)] (.seq (.ops [
  (.mk (some 2) none (.bx 71 1 (.t 0))), 
  (.mk (some 4) none (.pure (.mv (.c (.i .i64 0)))))]) (.seq (.ops [
  (.mk (some 5) none (.pure (.mv (.c (.i .i64 0)))))]) (.seq (.seq (.ops [
  (.mk (some 8) none (.pure (.mv (.t 1)))), 
  (.mk (some 9) none (.pure (.len false (.t 8)))), 
  (.mk (some 10) none (.pure (.mv (.c (.i .i64 0)))))]) (.block 0 (.loop (.seq (.ops [
  (.mk (some 11) none (.pure (.bin .lss (.t 10) (.t 9))))]) (.seq (.cond (.t 11) .skip (.exit 0)) (.seq (.block 1 (.seq (.ops [
  (.mk (some 12) none (.pure (.mv (.t 10)))), 
  (.mk (some 13) none (.pure (.ixS 1 (.t 8) (.t 10)))), 
  (.mk (some 14) none (.ld true 1 (.t 13))), 
  (.mk (some 6) none (.pure (.mv (.t 12)))), 
  (.mk (some 7) none (.pure (.mv (.t 14))))]) (.seq (.ops [
  (.mk (some 15) none (.pure (.faddr 0 (.t 2)))), 
  (.mk (some 16) none (.ld true 1 (.t 15))), 
  (.mk (some 17) none (.pure (.mv (.t 6)))), 
  (.mk (some 18) none (.pure (.ixS 1 (.t 16) (.t 17)))), 
  (.mk (some 19) none (.ld true 1 (.t 18))), 
  (.mk (some 20) none (.pure (.bin .eql (.t 19) (.c (.i .i64 0)))))]) (.cond (.t 20) (.ops [
  (.mk (some 21) none (.pure (.mv (.t 5)))), 
  (.mk (some 22) none (.pure (.mv (.t 7)))), 
  (.mk (some 23) none (.call 101 [(.t 22)])), 
  (.mk (some 24) none (.pure (.bin .add (.t 21) (.t 23)))), 
  (.mk (some 5) none (.pure (.mv (.t 24))))]) .skip)))) (.ops [
  (.mk (some 25) none (.pure (.bin .add (.t 10) (.c (.i .i64 1))))), 
  (.mk (some 10) none (.pure (.mv (.t 25))))]))))))) (.seq (.ops [
  (.mk (some 26) none (.pure (.mv (.t 5)))), 
  (.mk (some 27) none (.call 102 [(.t 26)])), 
  (.mk (some 4) none (.pure (.mv (.t 27))))]) .ret)))))
def fn100 : AFn := (AFn.mk 28 [] (.seq (.ops [
  (.mk (some 4) none (.bx 71 1 (.t 0)))]) (.seq (.ops [
  (.mk (some 10) none (.pure (.mv (.t 1)))), 
  (.mk (some 11) none (.pure (.len false (.t 10)))), 
  (.mk (some 12) none (.pure (.mv (.c (.i .i64 0)))))]) (.block 0 (.loop (.seq (.ops [
  (.mk (some 13) none (.pure (.bin .lss (.t 12) (.t 11))))]) (.seq (.cond (.t 13) .skip (.exit 0)) (.seq (.block 1 (.seq (.ops [
  (.mk (some 14) none (.pure (.mv (.t 12)))), 
  (.mk (some 15) none (.pure (.ixS 1 (.t 10) (.t 12)))), 
  (.mk (some 16) none (.ld true 1 (.t 15))), 
  (.mk (some 8) none (.pure (.mv (.t 14)))), 
  (.mk (some 9) none (.pure (.mv (.t 16))))]) (.seq (.ops [
  (.mk (some 17) none (.pure (.mv (.t 9)))), 
  (.mk (some 18) none (.pure (.mv (.t 3)))), 
  (.mk (some 19) none (.pure (.bin .neq (.t 17) (.t 18))))]) (.cond (.t 19) (.ops [
  (.mk (some 20) none (.pure (.faddr 0 (.t 4)))), 
  (.mk (some 21) none (.ld true 1 (.t 20))), 
  (.mk (some 22) none (.pure (.mv (.t 8)))), 
  (.mk (some 23) none (.pure (.ixS 1 (.t 21) (.t 22)))), 
  (.mk (some 24) none (.ld true 1 (.t 23))), 
  (.mk (some 25) none (.pure (.bin .add (.t 24) (.c (.i .i64 1))))), 
  (.mk (some 26) none (.pure (.ixS 1 (.t 21) (.t 22)))), 
  (.mk none none (.st 1 (.t 26) (.t 25)))]) .skip)))) (.ops [
  (.mk (some 27) none (.pure (.bin .add (.t 12) (.c (.i .i64 1))))), 
  (.mk (some 12) none (.pure (.mv (.t 27))))])))))))))
def fn101 : AFn := (AFn.mk 6 [(.t 2)] (.seq (.ops [
  (.mk (some 2) none (.pure (.mv (.c (.i .i64 0)))))]) (.seq (.ops [
  (.mk (some 3) none (.pure (.mv (.t 0)))), 
  (.mk (some 4) none (.pure (.bin .mul (.c (.i .i64 2)) (.t 3)))), 
  (.mk (some 5) none (.pure (.bin .sub (.t 4) (.c (.i .i64 1))))), 
  (.mk (some 2) none (.pure (.mv (.t 5))))]) .ret)))
def fn102 : AFn := (AFn.mk 5 [(.t 2)] (.seq (.ops [
  (.mk (some 2) none (.pure (.mv (.c (.i .i64 0)))))]) (.seq (.seq (.ops [
  (.mk (some 3) none (.pure (.mv (.t 0)))), 
  (.mk (some 4) none (.pure (.bin .gtr (.t 3) (.c (.i .i64 0)))))]) (.cond (.t 4) (.seq (.ops [
  (.mk (some 2) none (.pure (.mv (.c (.i .i64 1)))))]) .ret) .skip)) (.seq (.ops [
  (.mk (some 2) none (.pure (.mv (.c (.i .i64 0)))))]) .ret))))
def fn103 : AFn := (AFn.mk 29 [(.t 4)] (.seq (.ops [
  (.mk (some 2) none (.bx 74 1 (.t 0))), 
  (.mk (some 4) none (.pure (.mv (.c (.i .i64 0)))))]) (.seq (.ops [
  (.mk (some 5) none (.pure (.mv (.c (.i .i64 0)))))]) (.seq (.seq (.ops [
  (.mk (some 8) none (.pure (.mv (.t 1)))), 
  (.mk (some 9) none (.pure (.len false (.t 8)))), 
  (.mk (some 10) none (.pure (.mv (.c (.i .i64 0)))))]) (.block 0 (.loop (.seq (.ops [
  (.mk (some 11) none (.pure (.bin .lss (.t 10) (.t 9))))]) (.seq (.cond (.t 11) .skip (.exit 0)) (.seq (.block 1 (.seq (.ops [
  (.mk (some 12) none (.pure (.mv (.t 10)))), 
  (.mk (some 13) none (.pure (.ixS 1 (.t 8) (.t 10)))), 
  (.mk (some 14) none (.ld true 1 (.t 13))), 
  (.mk (some 6) none (.pure (.mv (.t 12)))), 
  (.mk (some 7) none (.pure (.mv (.t 14))))]) (.ops [
  (.mk (some 15) none (.pure (.mv (.t 5)))), 
  (.mk (some 16) none (.pure (.mv (.t 7)))), 
  (.mk (some 17) none (.pure (.faddr 0 (.t 2)))), 
  (.mk (some 18) none (.ld true 1 (.t 17))), 
  (.mk (some 19) none (.pure (.mv (.t 6)))), 
  (.mk (some 20) none (.pure (.ixS 1 (.t 18) (.t 19)))), 
  (.mk (some 21) none (.ld true 1 (.t 20))), 
  (.mk (some 22) none (.pure (.bin .mul (.t 16) (.t 21)))), 
  (.mk (some 23) none (.pure (.bin .add (.t 15) (.t 22)))), 
  (.mk (some 5) none (.pure (.mv (.t 23))))]))) (.ops [
  (.mk (some 24) none (.pure (.bin .add (.t 10) (.c (.i .i64 1))))), 
  (.mk (some 10) none (.pure (.mv (.t 24))))]))))))) (.seq (.seq (.ops [
  (.mk (some 25) none (.pure (.mv (.t 5)))), 
  (.mk (some 26) none (.pure (.mv (.t 1)))), 
  (.mk (some 27) none (.pure (.len false (.t 26)))), 
  (.mk (some 28) none (.pure (.bin .geq (.t 25) (.t 27))))]) (.cond (.t 28) (.seq (.ops [
  (.mk (some 4) none (.pure (.mv (.c (.i .i64 1)))))]) .ret) .skip)) (.seq (.ops [
  (.mk (some 4) none (.pure (.mv (.c (.i .i64 0)))))]) .ret))))))
def fn104 : AFn := (AFn.mk 32 [] (.seq (.ops [
  (.mk (some 4) none (.bx 74 1 (.t 0)))]) (.seq (.seq (.ops [
  (.mk (some 10) none (.pure (.mv (.t 2)))), 
  (.mk (some 11) none (.pure (.mv (.t 3)))), 
  (.mk (some 12) none (.pure (.bin .eql (.t 10) (.t 11))))]) (.cond (.t 12) .ret .skip)) (.seq (.ops [
  (.mk (some 13) none (.pure (.mv (.t 1)))), 
  (.mk (some 14) none (.pure (.len false (.t 13)))), 
  (.mk (some 15) none (.pure (.mv (.c (.i .i64 0)))))]) (.block 0 (.loop (.seq (.ops [
  (.mk (some 16) none (.pure (.bin .lss (.t 15) (.t 14))))]) (.seq (.cond (.t 16) .skip (.exit 0)) (.seq (.block 1 (.seq (.ops [
  (.mk (some 17) none (.pure (.mv (.t 15)))), 
  (.mk (some 18) none (.pure (.ixS 1 (.t 13) (.t 15)))), 
  (.mk (some 19) none (.ld true 1 (.t 18))), 
  (.mk (some 8) none (.pure (.mv (.t 17)))), 
  (.mk (some 9) none (.pure (.mv (.t 19))))]) (.seq (.ops [
  (.mk (some 20) none (.pure (.mv (.t 9)))), 
  (.mk (some 21) none (.pure (.bin .eql (.t 20) (.c (.i .i64 1)))))]) (.cond (.t 21) (.ops [
  (.mk (some 22) none (.pure (.faddr 0 (.t 4)))), 
  (.mk (some 23) none (.ld true 1 (.t 22))), 
  (.mk (some 24) none (.pure (.mv (.t 8)))), 
  (.mk (some 25) none (.pure (.ixS 1 (.t 23) (.t 24)))), 
  (.mk (some 26) none (.ld true 1 (.t 25))), 
  (.mk (some 27) none (.pure (.mv (.t 3)))), 
  (.mk (some 28) none (.pure (.bin .mul (.c (.i .i64 2)) (.t 27)))), 
  (.mk (some 29) none (.pure (.bin .mul (.t 26) (.t 28)))), 
  (.mk (some 30) none (.pure (.ixS 1 (.t 23) (.t 24)))), 
  (.mk none none (.st 1 (.t 30) (.t 29)))]) .skip)))) (.ops [
  (.mk (some 31) none (.pure (.bin .add (.t 15) (.c (.i .i64 1))))), 
  (.mk (some 15) none (.pure (.mv (.t 31))))]))))))))))
def fn105 : AFn := (AFn.mk 49 [(.t 4)] (.seq (.ops [
  (.mk (some 2) none (.bx 76 1 (.t 0))), 
  (.mk (some 4) none (.pure (.mv (.c (.i .i64 0)))))]) (.seq (.ops [
  (.mk (some 5) none (.al 124 [(.i .i64 0), (.i .i64 0), (.i .i64 0), (.i .i64 0), (.i .i64 0), (.i .i64 0), (.i .i64 0), (.i .i64 0), (.i .i64 0), (.i .i64 0), (.i .i64 0), (.i .i64 0), (.i .i64 0), (.i .i64 0), (.i .i64 0), (.i .i64 0), (.i .i64 0), (.i .i64 0), (.i .i64 0), (.i .i64 0), (.i .i64 0), (.i .i64 0), (.i .i64 0), (.i .i64 0), (.i .i64 0), (.i .i64 0), (.i .i64 0), (.i .i64 0), (.i .i64 0), (.i .i64 0), (.i .i64 0), (.i .i64 0), (.i .i64 0), (.i .i64 0), (.i .i64 0), (.i .i64 0), (.i .i64 0), (.i .i64 0), (.i .i64 0), (.i .i64 0), (.i .i64 0), (.i .i64 0), (.i .i64 0), (.i .i64 0), (.i .i64 0), (.i .i64 0), (.i .i64 0), (.i .i64 0), (.i .i64 0), (.i .i64 0), (.i .i64 0), (.i .i64 0), (.i .i64 0), (.i .i64 0), (.i .i64 0), (.i .i64 0), (.i .i64 0), (.i .i64 0), (.i .i64 0), (.i .i64 0), (.i .i64 0), (.i .i64 0), (.i .i64 0), (.i .i64 0), (.i .i64 0), (.i .i64 0), (.i .i64 0), (.i .i64 0), (.i .i64 0), (.i .i64 0), (.i .i64 0), (.i .i64 0), (.i .i64 0), (.i .i64 0), (.i .i64 0), (.i .i64 0), (.i .i64 0), (.i .i64 0), (.i .i64 0), (.i .i64 0), (.i .i64 0), (.i .i64 0), (.i .i64 0), (.i .i64 0), (.i .i64 0), (.i .i64 0), (.i .i64 0), (.i .i64 0), (.i .i64 0), (.i .i64 0), (.i .i64 0), (.i .i64 0), (.i .i64 0), (.i .i64 0), (.i .i64 0), (.i .i64 0), (.i .i64 0), (.i .i64 0), (.i .i64 0), (.i .i64 0), (.i .i64 0), (.i .i64 0), (.i .i64 0), (.i .i64 0), (.i .i64 0), (.i .i64 0), (.i .i64 0), (.i .i64 0), (.i .i64 0), (.i .i64 0), (.i .i64 0), (.i .i64 0), (.i .i64 0), (.i .i64 0), (.i .i64 0), (.i .i64 0), (.i .i64 0), (.i .i64 0), (.i .i64 0), (.i .i64 0), (.i .i64 0), (.i .i64 0), (.i .i64 0), (.i .i64 0), (.i .i64 0), (.i .i64 0), (.i .i64 0), (.i .i64 0), (.i .i64 0), (.i .i64 0), (.i .i64 0), (.i .i64 0), (.i .i64 0), (.i .i64 0), (.i .i64 0), (.i .i64 0), (.i .i64 0), (.i .i64 0), (.i .i64 0), (.i .i64 0), (.i .i64 0), (.i .i64 0), (.i .i64 0), (.i .i64 0), (.i .i64 0), (.i .i64 0), (.i .i64 0), (.i .i64 0), (.i .i64 0), (.i .i64 0), (.i .i64 0), (.i .i64 0), (.i .i64 0), (.i .i64 0), (.i .i64 0), (.i .i64 0), (.i .i64 0), (.i .i64 0), (.i .i64 0), (.i .i64 0), (.i .i64 0), (.i .i64 0), (.i .i64 0), (.i .i64 0), (.i .i64 0), (.i .i64 0), (.i .i64 0), (.i .i64 0), (.i .i64 0), (.i .i64 0), (.i .i64 0), (.i .i64 0), (.i .i64 0), (.i .i64 0), (.i .i64 0), (.i .i64 0), (.i .i64 0), (.i .i64 0), (.i .i64 0), (.i .i64 0), (.i .i64 0), (.i .i64 0), (.i .i64 0), (.i .i64 0), (.i .i64 0), (.i .i64 0), (.i .i64 0), (.i .i64 0), (.i .i64 0), (.i .i64 0), (.i .i64 0), (.i .i64 0), (.i .i64 0), (.i .i64 0), (.i .i64 0), (.i .i64 0), (.i .i64 0), (.i .i64 0), (.i .i64 0), (.i .i64 0)]))]) (.seq (.seq (.ops [
  (.mk (some 11) none (.pure (.mv (.t 1)))), 
  (.mk (some 12) none (.pure (.len false (.t 11)))), 
  (.mk (some 13) none (.pure (.mv (.c (.i .i64 0)))))]) (.block 0 (.loop (.seq (.ops [
  (.mk (some 14) none (.pure (.bin .lss (.t 13) (.t 12))))]) (.seq (.cond (.t 14) .skip (.exit 0)) (.seq (.block 1 (.seq (.ops [
  (.mk (some 15) none (.pure (.mv (.t 13)))), 
  (.mk (some 16) none (.pure (.ixS 1 (.t 11) (.t 13)))), 
  (.mk (some 17) none (.ld true 1 (.t 16))), 
  (.mk (some 6) none (.pure (.mv (.t 15)))), 
  (.mk (some 7) none (.pure (.mv (.t 17))))]) (.any [(
  (.mk (some 18) none (.pure (.faddr 0 (.t 2)))), false), (
  (.mk (some 19) none (.pure (.faddr 0 (.t 18)))), false), (
  (.mk (some 20) none (.ld true 1 (.t 19))), false), (
  (.mk (some 21) none (.pure (.mv (.t 6)))), false), (
  (.mk (some 22) none (.pure (.ixS 1 (.t 20) (.t 21)))), false), (
  (.mk (some 23) none (.ld true 1 (.t 22))), false), (
  (.mk (some 24) none (.pure (.ixA 200 1 (.t 5) (.t 23)))), false), (
  (.mk (some 25) none (.ld true 1 (.t 24))), false), (
  (.mk (some 26) none (.pure (.mv (.t 7)))), false), (
  (.mk (some 27) none (.call 101 [(.t 26)])), false), (
  (.mk (some 28) none (.pure (.bin .add (.t 25) (.t 27)))), false), (
  (.mk (some 29) none (.pure (.ixA 200 1 (.t 5) (.t 23)))), false), (
  (.mk none none (.st 1 (.t 29) (.t 28))), false)]))) (.ops [
  (.mk (some 30) none (.pure (.bin .add (.t 13) (.c (.i .i64 1))))), 
  (.mk (some 13) none (.pure (.mv (.t 30))))]))))))) (.seq (.ops [
  (.mk (some 8) none (.pure (.mv (.c (.i .i64 0)))))]) (.seq (.seq (.ops [
  (.mk (some 31) none (.ld false 200 (.t 5))), 
  (.mk (some 32) none (.pure (.mv (.c (.i .i64 0)))))]) (.block 2 (.loop (.seq (.ops [
  (.mk (some 33) none (.pure (.bin .lss (.t 32) (.c (.i .i64 200)))))]) (.seq (.cond (.t 33) .skip (.exit 2)) (.seq (.block 3 (.seq (.ops [
  (.mk (some 34) none (.pure (.ixV 200 1 true (.t 31) (.t 32)))), 
  (.mk (some 10) none (.pure (.mv (.t 34))))]) (.seq (.ops [
  (.mk (some 35) none (.pure (.mv (.t 8)))), 
  (.mk (some 36) none (.pure (.bin .mul (.c (.i .i64 2)) (.t 35)))), 
  (.mk (some 37) none (.pure (.mv (.t 10)))), 
  (.mk (some 38) none (.pure (.bin .add (.t 36) (.t 37)))), 
  (.mk (some 8) none (.pure (.mv (.t 38))))]) (.seq (.ops [
  (.mk (some 39) none (.pure (.mv (.t 8)))), 
  (.mk (some 40) none (.pure (.mv (.t 8)))), 
  (.mk (some 41) none (.pure (.neg (.t 40)))), 
  (.mk (some 42) none (.pure (.mx true (.t 39) (.t 41)))), 
  (.mk (some 43) none (.pure (.mv (.t 1)))), 
  (.mk (some 44) none (.pure (.len false (.t 43)))), 
  (.mk (some 45) none (.pure (.bin .gtr (.t 42) (.t 44))))]) (.cond (.t 45) (.exit 2) .skip))))) (.ops [
  (.mk (some 46) none (.pure (.bin .add (.t 32) (.c (.i .i64 1))))), 
  (.mk (some 32) none (.pure (.mv (.t 46))))]))))))) (.seq (.ops [
  (.mk (some 47) none (.pure (.mv (.t 8)))), 
  (.mk (some 48) none (.call 102 [(.t 47)])), 
  (.mk (some 4) none (.pure (.mv (.t 48))))]) .ret)))))))
def F (f : Nat) : Option AFn := cond (Nat.blt f 63) (cond (Nat.blt f 37) (cond (Nat.blt f 21) (cond (Nat.blt f 16) (cond (Nat.blt f 15) (cond (Nat.beq f 11) (some fn11) none) (cond (Nat.beq f 15) (some fn15) none)) (cond (Nat.blt f 20) (cond (Nat.beq f 16) (some fn16) none) (cond (Nat.beq f 20) (some fn20) none))) (cond (Nat.blt f 29) (cond (Nat.blt f 23) (cond (Nat.beq f 21) (some fn21) none) (cond (Nat.beq f 23) (some fn23) none)) (cond (Nat.blt f 31) (cond (Nat.beq f 29) (some fn29) none) (cond (Nat.blt f 35) (cond (Nat.beq f 31) (some fn31) none) (cond (Nat.beq f 35) (some fn35) none))))) (cond (Nat.blt f 51) (cond (Nat.blt f 49) (cond (Nat.blt f 38) (cond (Nat.beq f 37) (some fn37) none) (cond (Nat.beq f 38) (some fn38) none)) (cond (Nat.blt f 50) (cond (Nat.beq f 49) (some fn49) none) (cond (Nat.beq f 50) (some fn50) none))) (cond (Nat.blt f 59) (cond (Nat.blt f 58) (cond (Nat.beq f 51) (some fn51) none) (cond (Nat.beq f 58) (some fn58) none)) (cond (Nat.blt f 61) (cond (Nat.beq f 59) (some fn59) none) (cond (Nat.blt f 62) (cond (Nat.beq f 61) (some fn61) none) (cond (Nat.beq f 62) (some fn62) none)))))) (cond (Nat.blt f 81) (cond (Nat.blt f 69) (cond (Nat.blt f 65) (cond (Nat.blt f 64) (cond (Nat.beq f 63) (some fn63) none) (cond (Nat.beq f 64) (some fn64) none)) (cond (Nat.blt f 68) (cond (Nat.beq f 65) (some fn65) none) (cond (Nat.beq f 68) (some fn68) none))) (cond (Nat.blt f 76) (cond (Nat.blt f 73) (cond (Nat.beq f 69) (some fn69) none) (cond (Nat.beq f 73) (some fn73) none)) (cond (Nat.blt f 78) (cond (Nat.beq f 76) (some fn76) none) (cond (Nat.blt f 80) (cond (Nat.beq f 78) (some fn78) none) (cond (Nat.beq f 80) (some fn80) none))))) (cond (Nat.blt f 101) (cond (Nat.blt f 83) (cond (Nat.blt f 82) (cond (Nat.beq f 81) (some fn81) none) (cond (Nat.beq f 82) (some fn82) none)) (cond (Nat.blt f 99) (cond (Nat.beq f 83) (some fn83) none) (cond (Nat.blt f 100) (cond (Nat.beq f 99) (some fn99) none) (cond (Nat.beq f 100) (some fn100) none)))) (cond (Nat.blt f 103) (cond (Nat.blt f 102) (cond (Nat.beq f 101) (some fn101) none) (cond (Nat.beq f 102) (some fn102) none)) (cond (Nat.blt f 104) (cond (Nat.beq f 103) (some fn103) none) (cond (Nat.blt f 105) (cond (Nat.beq f 104) (some fn104) none) (cond (Nat.beq f 105) (some fn105) none))))))
end Go.Proofs.Ytnalgdobglfndaa.T
