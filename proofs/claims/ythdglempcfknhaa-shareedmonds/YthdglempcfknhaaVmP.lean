/- The functions that the law reaches, as the small machine takes them. -/
import Derived.Test.YthdglempcfknhaaVmA
import Derived.KernelRfl
open Go.Vm
namespace Go.Proofs.Ythdglempcfknhaa.T
open Go
def fn10 : AFn := (AFn.mk 137 [(.t 8)] (.seq (.ops [
  (.mk (some 8) none (.pure (.mv (.c (.b false)))))]) (.seq (.seq (.ops [
  (.mk (some 21) none (.pure (.mv (.t 1)))), 
  (.mk (some 22) none (.pure (.mv (.t 2)))), 
  (.mk (some 23) none (.bsl 22 1 [.nsl] 2 [((0, 1), (.t 21)), ((1, 1), (.t 22))])), 
  (.mk (some 24) none (.call 14 [(.t 23)])), 
  (.mk (some 25) none (.pure (.not (.t 24))))]) (.cond (.t 25) (.seq (.ops [
  (.mk (some 26) none (.call 15 [])), 
  (.mk (some 8) none (.pure (.mv (.t 26))))]) .ret) .skip)) (.seq (.ops [
  (.mk (some 28) none (.pure (.mv (.t 0)))), 
  (.mk (some 29) none (.pure (.mv (.t 1)))), 
  (.mk (some 30) none (.call 29 [(.t 28), (.t 29)])), 
  (.mk (some 27) none (.pure (.mv (.t 30)))), 
  (.mk (some 31) none (.pure (.ext 0 (.t 27)))), 
  (.mk (some 32) none (.pure (.ext 1 (.t 27)))), 
  (.mk (some 33) none (.pure (.ext 2 (.t 27)))), 
  (.mk (some 34) none (.pure (.ext 3 (.t 27)))), 
  (.mk (some 9) none (.pure (.mv (.t 31)))), 
  (.mk (some 10) none (.pure (.mv (.t 32)))), 
  (.mk (some 11) none (.pure (.mv (.t 33)))), 
  (.mk (some 12) none (.pure (.mv (.t 34))))]) (.seq (.ops [
  (.mk (some 36) none (.pure (.mv (.t 0)))), 
  (.mk (some 37) none (.pure (.mv (.t 1)))), 
  (.mk (some 38) none (.call 31 [(.t 36), (.t 37)])), 
  (.mk (some 35) none (.pure (.mv (.t 38)))), 
  (.mk (some 39) none (.pure (.ext 0 (.t 35)))), 
  (.mk (some 40) none (.pure (.ext 1 (.t 35)))), 
  (.mk (some 13) none (.pure (.mv (.t 39)))), 
  (.mk (some 14) none (.pure (.mv (.t 40))))]) (.seq (.seq (.ops [
  (.mk (some 41) none (.pure (.mv (.t 0)))), 
  (.mk (some 42) none (.pure (.mv (.t 1)))), 
  (.mk (some 43) none (.call 39 [(.t 41), (.t 42)])), 
  (.mk (some 44) none (.pure (.not (.t 43))))]) (.cond (.t 44) (.seq (.ops [
  (.mk (some 45) none (.pure (.mv (.t 12)))), 
  (.mk (some 46) none (.pure (.mv (.t 14)))), 
  (.mk (some 47) none (.pure (.bin .eql (.t 45) (.t 46)))), 
  (.mk (some 48) none (.pure (.mv (.t 47)))), 
  (.mk (some 49) (some (48, true)) (.pure (.mv (.t 12)))), 
  (.mk (some 50) (some (48, true)) (.pure (.bin .neq (.t 49) (.c (.i .i64 0))))), 
  (.mk (some 51) none (.pure (.pick (.t 48) (.t 50) (.c (.b false))))), 
  (.mk (some 52) none (.pure (.mv (.t 51)))), 
  (.mk (some 53) (some (52, true)) (.pure (.mv (.t 9)))), 
  (.mk (some 54) (some (52, true)) (.pure (.mv (.t 13)))), 
  (.mk (some 55) (some (52, true)) (.pure (.len false (.t 54)))), 
  (.mk (some 56) (some (52, true)) (.pure (.bin .add (.t 53) (.t 55)))), 
  (.mk (some 57) (some (52, true)) (.pure (.bin .eql (.t 56) (.c (.i .i64 0))))), 
  (.mk (some 58) none (.pure (.pick (.t 52) (.t 57) (.c (.b false))))), 
  (.mk (some 59) none (.pure (.mv (.t 58)))), 
  (.mk (some 60) (some (59, true)) (.call 15 [])), 
  (.mk (some 61) none (.pure (.pick (.t 59) (.t 60) (.c (.b false))))), 
  (.mk (some 8) none (.pure (.mv (.t 61))))]) .ret) .skip)) (.seq (.ops [
  (.mk (some 63) none (.pure (.mv (.t 0)))), 
  (.mk (some 64) none (.pure (.mv (.t 1)))), 
  (.mk (some 65) none (.pure (.mv (.t 13)))), 
  (.mk (some 66) none (.call 27 [(.t 63), (.t 64), (.t 65)])), 
  (.mk (some 62) none (.pure (.mv (.t 66)))), 
  (.mk (some 67) none (.pure (.ext 0 (.t 62)))), 
  (.mk (some 68) none (.pure (.ext 1 (.t 62)))), 
  (.mk (some 69) none (.pure (.ext 2 (.t 62)))), 
  (.mk (some 15) none (.pure (.mv (.t 67)))), 
  (.mk (some 16) none (.pure (.mv (.t 68)))), 
  (.mk (some 17) none (.pure (.mv (.t 69))))]) (.seq (.seq (.ops [
  (.mk (some 70) none (.pure (.mv (.t 12)))), 
  (.mk (some 71) none (.pure (.bin .neq (.t 70) (.c (.i .i64 0))))), 
  (.mk (some 72) none (.pure (.mv (.t 71)))), 
  (.mk (some 73) (some (72, false)) (.pure (.mv (.t 14)))), 
  (.mk (some 74) (some (72, false)) (.pure (.bin .neq (.t 73) (.c (.i .i64 0))))), 
  (.mk (some 75) none (.pure (.pick (.t 72) (.c (.b true)) (.t 74)))), 
  (.mk (some 76) none (.pure (.mv (.t 75)))), 
  (.mk (some 77) (some (76, false)) (.pure (.mv (.t 17)))), 
  (.mk (some 78) (some (76, false)) (.pure (.bin .neq (.t 77) (.c (.i .i64 0))))), 
  (.mk (some 79) none (.pure (.pick (.t 76) (.c (.b true)) (.t 78)))), 
  (.mk (some 80) none (.pure (.mv (.t 79)))), 
  (.mk (some 81) (some (80, false)) (.pure (.mv (.t 16)))), 
  (.mk (some 82) (some (80, false)) (.pure (.not (.t 81)))), 
  (.mk (some 83) none (.pure (.pick (.t 80) (.c (.b true)) (.t 82)))), 
  (.mk (some 84) none (.pure (.mv (.t 83)))), 
  (.mk (some 85) (some (84, false)) (.pure (.mv (.t 15)))), 
  (.mk (some 86) (some (84, false)) (.pure (.mv (.t 9)))), 
  (.mk (some 87) (some (84, false)) (.pure (.bin .neq (.t 85) (.t 86)))), 
  (.mk (some 88) none (.pure (.pick (.t 84) (.c (.b true)) (.t 87))))]) (.cond (.t 88) (.seq (.ops [
  (.mk (some 8) none (.pure (.mv (.c (.b false)))))]) .ret) .skip)) (.seq (.ops [
  (.mk (some 90) none (.pure (.mv (.t 0)))), 
  (.mk (some 91) none (.pure (.mv (.t 1)))), 
  (.mk (some 92) none (.pure (.mv (.t 2)))), 
  (.mk (some 93) none (.call 27 [(.t 90), (.t 91), (.t 92)])), 
  (.mk (some 89) none (.pure (.mv (.t 93)))), 
  (.mk (some 94) none (.pure (.ext 0 (.t 89)))), 
  (.mk (some 95) none (.pure (.ext 1 (.t 89)))), 
  (.mk (some 96) none (.pure (.ext 2 (.t 89)))), 
  (.mk (some 18) none (.pure (.mv (.t 94)))), 
  (.mk (some 19) none (.pure (.mv (.t 95)))), 
  (.mk (some 20) none (.pure (.mv (.t 96))))]) (.seq (.seq (.ops [
  (.mk (some 97) none (.pure (.mv (.t 20)))), 
  (.mk (some 98) none (.pure (.bin .neq (.t 97) (.c (.i .i64 0))))), 
  (.mk (some 99) none (.pure (.mv (.t 98)))), 
  (.mk (some 100) (some (99, false)) (.pure (.mv (.t 19)))), 
  (.mk (some 101) (some (99, false)) (.pure (.not (.t 100)))), 
  (.mk (some 102) none (.pure (.pick (.t 99) (.c (.b true)) (.t 101))))]) (.cond (.t 102) (.seq (.ops [
  (.mk (some 103) none (.pure (.mv (.t 18)))), 
  (.mk (some 104) none (.pure (.bin .eql (.t 103) (.c (.i .i64 0))))), 
  (.mk (some 105) none (.pure (.mv (.t 104)))), 
  (.mk (some 106) (some (105, true)) (.call 15 [])), 
  (.mk (some 107) none (.pure (.pick (.t 105) (.t 106) (.c (.b false))))), 
  (.mk (some 8) none (.pure (.mv (.t 107))))]) .ret) .skip)) (.seq (.ops [
  (.mk (some 108) none (.pure (.mv (.t 18)))), 
  (.mk (some 109) none (.pure (.mv (.t 1)))), 
  (.mk (some 110) none (.pure (.mv (.t 3)))), 
  (.mk (some 111) none (.pure (.conv .i64 (.t 110)))), 
  (.mk (some 112) none (.pure (.mv (.t 1)))), 
  (.mk (some 113) none (.pure (.len false (.t 112)))), 
  (.mk (some 114) none (.pure (.bin .rem (.t 111) (.t 113)))), 
  (.mk (some 115) none (.pure (.ixS 1 (.t 109) (.t 114)))), 
  (.mk (some 116) none (.ld true 1 (.t 115))), 
  (.mk (some 117) none (.pure (.bin .leq (.t 108) (.t 116)))), 
  (.mk (some 118) none (.pure (.mv (.t 117)))), 
  (.mk (some 119) (some (118, true)) (.pure (.mv (.t 18)))), 
  (.mk (some 120) (some (118, true)) (.pure (.mv (.t 9)))), 
  (.mk (some 121) (some (118, true)) (.pure (.bin .leq (.t 119) (.t 120)))), 
  (.mk (some 122) none (.pure (.pick (.t 118) (.t 121) (.c (.b false))))), 
  (.mk (some 123) none (.pure (.mv (.t 122)))), 
  (.mk (some 124) (some (123, true)) (.pure (.mv (.t 18)))), 
  (.mk (some 125) (some (123, true)) (.pure (.mv (.t 9)))), 
  (.mk (some 126) (some (123, true)) (.pure (.bin .lss (.t 124) (.t 125)))), 
  (.mk (some 127) (some (123, true)) (.pure (.mv (.t 126)))), 
  (.mk (some 128) (some (127, false)) (.pure (.mv (.t 2)))), 
  (.mk (some 129) (some (127, false)) (.pure (.mv (.t 13)))), 
  (.mk (some 130) (some (127, false)) (.call 42 [(.t 128), (.t 129)])), 
  (.mk (some 131) (some (127, false)) (.pure (.not (.t 130)))), 
  (.mk (some 132) (some (123, true)) (.pure (.pick (.t 127) (.c (.b true)) (.t 131)))), 
  (.mk (some 133) none (.pure (.pick (.t 123) (.t 132) (.c (.b false))))), 
  (.mk (some 134) none (.pure (.mv (.t 133)))), 
  (.mk (some 135) (some (134, true)) (.call 15 [])), 
  (.mk (some 136) none (.pure (.pick (.t 134) (.t 135) (.c (.b false))))), 
  (.mk (some 8) none (.pure (.mv (.t 136))))]) .ret)))))))))))
def fn14 : AFn := (AFn.mk 16 [(.t 2)] (.seq (.ops [
  (.mk (some 2) none (.pure (.mv (.c (.b false)))))]) (.seq (.seq (.ops [
  (.mk (some 3) none (.pure (.mv (.c (.i .i64 0)))))]) (.block 0 (.loop (.seq (.seq (.ops [
  (.mk (some 4) none (.pure (.mv (.t 3)))), 
  (.mk (some 5) none (.pure (.mv (.t 0)))), 
  (.mk (some 6) none (.pure (.len false (.t 5)))), 
  (.mk (some 7) none (.pure (.bin .lss (.t 4) (.t 6))))]) (.cond (.t 7) .skip (.exit 0))) (.seq (.block 1 (.seq (.ops [
  (.mk (some 10) none (.pure (.mv (.t 0)))), 
  (.mk (some 11) none (.pure (.mv (.t 3)))), 
  (.mk (some 12) none (.pure (.ixS 1 (.t 10) (.t 11)))), 
  (.mk (some 13) none (.ld true 1 (.t 12))), 
  (.mk (some 14) none (.pure (.len false (.t 13)))), 
  (.mk (some 15) none (.pure (.bin .gtr (.t 14) (.c (.i .i64 100)))))]) (.cond (.t 15) (.seq (.ops [
  (.mk (some 2) none (.pure (.mv (.c (.b false)))))]) .ret) .skip))) (.ops [
  (.mk (some 8) none (.pure (.mv (.t 3)))), 
  (.mk (some 9) none (.pure (.bin .add (.t 8) (.c (.i .i64 1))))), 
  (.mk (some 3) none (.pure (.mv (.t 9))))])))))) (.seq (.ops [
  (.mk (some 2) none (.pure (.mv (.c (.b true)))))]) .ret))))
def fn15 : AFn := (AFn.mk 75 [(.t 0)] (.seq (.ops [
  (.mk (some 0) none (.pure (.mv (.c (.b false)))))]) (.seq (.ops [
  (.mk (some 12) none (.bsl 3 1 [(.i .i64 0)] 4 [((0, 1), (.c (.i .i64 0))), ((1, 1), (.c (.i .i64 3))), ((2, 1), (.c (.i .i64 4))), ((3, 1), (.c (.i .i64 5)))])), 
  (.mk (some 13) none (.bsl 3 1 [(.i .i64 0)] 2 [((0, 1), (.c (.i .i64 1))), ((1, 1), (.c (.i .i64 0)))])), 
  (.mk (some 14) none (.call 21 [(.c (.i .i64 2)), (.t 12), (.t 13)])), 
  (.mk (some 11) none (.pure (.mv (.t 14)))), 
  (.mk (some 15) none (.pure (.ext 0 (.t 11)))), 
  (.mk (some 16) none (.pure (.ext 1 (.t 11)))), 
  (.mk (some 1) none (.pure (.mv (.t 15)))), 
  (.mk (some 2) none (.pure (.mv (.t 16))))]) (.seq (.ops [
  (.mk (some 18) none (.bsl 3 1 [(.i .i64 0)] 4 [((0, 1), (.c (.i .i64 0))), ((1, 1), (.c (.i .i64 (-2)))), ((2, 1), (.c (.i .i64 1))), ((3, 1), (.c (.i .i64 (-3))))])), 
  (.mk (some 19) none (.call 29 [(.c (.i .i64 2)), (.t 18)])), 
  (.mk (some 17) none (.pure (.mv (.t 19)))), 
  (.mk (some 20) none (.pure (.ext 0 (.t 17)))), 
  (.mk (some 21) none (.pure (.ext 1 (.t 17)))), 
  (.mk (some 22) none (.pure (.ext 2 (.t 17)))), 
  (.mk (some 23) none (.pure (.ext 3 (.t 17)))), 
  (.mk (some 3) none (.pure (.mv (.t 20)))), 
  (.mk (some 4) none (.pure (.mv (.t 21)))), 
  (.mk (some 5) none (.pure (.mv (.t 22)))), 
  (.mk (some 6) none (.pure (.mv (.t 23))))]) (.seq (.ops [
  (.mk (some 25) none (.bsl 3 1 [(.i .i64 0)] 4 [((0, 1), (.c (.i .i64 0))), ((1, 1), (.c (.i .i64 (-2)))), ((2, 1), (.c (.i .i64 1))), ((3, 1), (.c (.i .i64 (-3))))])), 
  (.mk (some 26) none (.call 31 [(.c (.i .i64 2)), (.t 25)])), 
  (.mk (some 24) none (.pure (.mv (.t 26)))), 
  (.mk (some 27) none (.pure (.ext 0 (.t 24)))), 
  (.mk (some 28) none (.pure (.ext 1 (.t 24)))), 
  (.mk (some 7) none (.pure (.mv (.t 27)))), 
  (.mk (some 8) none (.pure (.mv (.t 28))))]) (.seq (.ops [
  (.mk (some 30) none (.bsl 3 1 [(.i .i64 0)] 4 [((0, 1), (.c (.i .i64 0))), ((1, 1), (.c (.i .i64 3))), ((2, 1), (.c (.i .i64 4))), ((3, 1), (.c (.i .i64 5)))])), 
  (.mk (some 31) none (.bsl 3 1 [(.i .i64 0)] 2 [((0, 1), (.c (.i .i64 2))), ((1, 1), (.c (.i .i64 1)))])), 
  (.mk (some 32) none (.call 33 [(.c (.i .i64 2)), (.t 30), (.t 31)])), 
  (.mk (some 29) none (.pure (.mv (.t 32)))), 
  (.mk (some 33) none (.pure (.ext 0 (.t 29)))), 
  (.mk (some 34) none (.pure (.ext 1 (.t 29)))), 
  (.mk (some 9) none (.pure (.mv (.t 33)))), 
  (.mk (some 10) none (.pure (.mv (.t 34))))]) (.seq (.ops [
  (.mk (some 35) none (.pure (.mv (.t 2)))), 
  (.mk (some 36) none (.pure (.bin .eql (.t 35) (.c (.i .i64 0))))), 
  (.mk (some 37) none (.pure (.mv (.t 36)))), 
  (.mk (some 38) (some (37, true)) (.pure (.mv (.t 1)))), 
  (.mk (some 39) (some (37, true)) (.bsl 3 1 [(.i .i64 0)] 2 [((0, 1), (.c (.i .i64 1))), ((1, 1), (.c (.i .i64 4)))])), 
  (.mk (some 40) (some (37, true)) (.call 20 [(.t 38), (.t 39)])), 
  (.mk (some 41) none (.pure (.pick (.t 37) (.t 40) (.c (.b false))))), 
  (.mk (some 42) none (.pure (.mv (.t 41)))), 
  (.mk (some 43) (some (42, true)) (.pure (.mv (.t 6)))), 
  (.mk (some 44) (some (42, true)) (.pure (.bin .eql (.t 43) (.c (.i .i64 0))))), 
  (.mk (some 45) none (.pure (.pick (.t 42) (.t 44) (.c (.b false))))), 
  (.mk (some 46) none (.pure (.mv (.t 45)))), 
  (.mk (some 47) (some (46, true)) (.pure (.mv (.t 3)))), 
  (.mk (some 48) (some (46, true)) (.pure (.bin .eql (.t 47) (.c (.i .i64 (-3)))))), 
  (.mk (some 49) none (.pure (.pick (.t 46) (.t 48) (.c (.b false))))), 
  (.mk (some 50) none (.pure (.mv (.t 49)))), 
  (.mk (some 51) (some (50, true)) (.pure (.mv (.t 4)))), 
  (.mk (some 52) (some (50, true)) (.pure (.bin .eql (.t 51) (.c (.i .i64 3))))), 
  (.mk (some 53) none (.pure (.pick (.t 50) (.t 52) (.c (.b false))))), 
  (.mk (some 54) none (.pure (.mv (.t 53)))), 
  (.mk (some 55) (some (54, true)) (.pure (.mv (.t 5)))), 
  (.mk (some 56) (some (54, true)) (.pure (.bin .eql (.t 55) (.c (.i .i64 3))))), 
  (.mk (some 57) none (.pure (.pick (.t 54) (.t 56) (.c (.b false))))), 
  (.mk (some 58) none (.pure (.mv (.t 57)))), 
  (.mk (some 59) (some (58, true)) (.pure (.mv (.t 8)))), 
  (.mk (some 60) (some (58, true)) (.pure (.bin .eql (.t 59) (.c (.i .i64 0))))), 
  (.mk (some 61) none (.pure (.pick (.t 58) (.t 60) (.c (.b false))))), 
  (.mk (some 62) none (.pure (.mv (.t 61)))), 
  (.mk (some 63) (some (62, true)) (.pure (.mv (.t 7)))), 
  (.mk (some 64) (some (62, true)) (.bsl 3 1 [(.i .i64 0)] 2 [((0, 1), (.c (.i .i64 (-3)))), ((1, 1), (.c (.i .i64 0)))])), 
  (.mk (some 65) (some (62, true)) (.call 20 [(.t 63), (.t 64)])), 
  (.mk (some 66) none (.pure (.pick (.t 62) (.t 65) (.c (.b false))))), 
  (.mk (some 67) none (.pure (.mv (.t 66)))), 
  (.mk (some 68) (some (67, true)) (.pure (.mv (.t 10)))), 
  (.mk (some 69) (some (67, true)) (.pure (.bin .eql (.t 68) (.c (.i .i64 0))))), 
  (.mk (some 70) none (.pure (.pick (.t 67) (.t 69) (.c (.b false))))), 
  (.mk (some 71) none (.pure (.mv (.t 70)))), 
  (.mk (some 72) (some (71, true)) (.pure (.mv (.t 9)))), 
  (.mk (some 73) (some (71, true)) (.pure (.bin .eql (.t 72) (.c (.i .i64 8))))), 
  (.mk (some 74) none (.pure (.pick (.t 71) (.t 73) (.c (.b false))))), 
  (.mk (some 0) none (.pure (.mv (.t 74))))]) .ret)))))))
def fn16 : AFn := (AFn.mk 37 [(.t 4), (.t 5), (.t 6)] (.seq (.ops [
  (.mk (some 4) none (.pure (.mv (.c (.i .i64 0))))), 
  (.mk (some 5) none (.pure (.mv (.c (.i .i64 0))))), 
  (.mk (some 6) none (.pure (.mv (.c (.i .i64 0)))))]) (.seq (.seq (.ops [
  (.mk (some 10) none (.pure (.mv (.t 0)))), 
  (.mk (some 11) none (.pure (.mv (.t 1)))), 
  (.mk (some 12) none (.call 44 [(.t 10), (.t 11)])), 
  (.mk (some 13) none (.pure (.not (.t 12))))]) (.cond (.t 13) (.seq (.ops [
  (.mk (some 4) none (.pure (.mv (.c (.i .i64 0))))), 
  (.mk (some 5) none (.pure (.mv (.c (.i .i64 0))))), 
  (.mk (some 6) none (.pure (.mv (.c (.i .i64 2)))))]) .ret) .skip)) (.seq (.seq (.ops [
  (.mk (some 14) none (.pure (.mv (.t 0)))), 
  (.mk (some 15) none (.call 45 [(.t 14), (.c .nsl)])), 
  (.mk (some 16) none (.pure (.len false (.t 15)))), 
  (.mk (some 17) none (.pure (.mv (.c (.i .i64 0)))))]) (.block 0 (.loop (.seq (.ops [
  (.mk (some 18) none (.pure (.bin .lss (.t 17) (.t 16))))]) (.seq (.cond (.t 18) .skip (.exit 0)) (.seq (.block 1 (.seq (.ops [
  (.mk (some 19) none (.pure (.ixS 1 (.t 15) (.t 17)))), 
  (.mk (some 20) none (.ld true 1 (.t 19))), 
  (.mk (some 8) none (.pure (.mv (.t 20))))]) (.seq (.ops [
  (.mk (some 21) none (.pure (.mv (.t 0)))), 
  (.mk (some 22) none (.pure (.mv (.t 8)))), 
  (.mk (some 23) none (.call 46 [(.t 22)])), 
  (.mk (some 24) none (.pure (.mv (.t 1)))), 
  (.mk (some 25) none (.pure (.mv (.t 8)))), 
  (.mk (some 26) none (.call 47 [(.t 24), (.t 25)])), 
  (.mk (some 27) none (.bsl 53 1 [.nfn] 2 [((0, 1), (.t 23)), ((1, 1), (.t 26))])), 
  (.mk (some 28) none (.call 45 [(.t 21), (.t 27)])), 
  (.mk (some 9) none (.pure (.mv (.t 28))))]) (.seq (.ops [
  (.mk (some 29) none (.pure (.mv (.t 9)))), 
  (.mk (some 30) none (.pure (.len false (.t 29)))), 
  (.mk (some 31) none (.pure (.bin .gtr (.t 30) (.c (.i .i64 0)))))]) (.cond (.t 31) (.seq (.ops [
  (.mk (some 32) none (.pure (.mv (.t 8)))), 
  (.mk (some 33) none (.pure (.mv (.t 9)))), 
  (.mk (some 34) none (.pure (.ixS 1 (.t 33) (.c (.i .i64 0))))), 
  (.mk (some 4) none (.pure (.mv (.t 32)))), 
  (.mk (some 35) none (.ld true 1 (.t 34))), 
  (.mk (some 5) none (.pure (.mv (.t 35)))), 
  (.mk (some 6) none (.pure (.mv (.c (.i .i64 0)))))]) .ret) .skip))))) (.ops [
  (.mk (some 36) none (.pure (.bin .add (.t 17) (.c (.i .i64 1))))), 
  (.mk (some 17) none (.pure (.mv (.t 36))))]))))))) (.seq (.ops [
  (.mk (some 4) none (.pure (.mv (.c (.i .i64 0))))), 
  (.mk (some 5) none (.pure (.mv (.c (.i .i64 0))))), 
  (.mk (some 6) none (.pure (.mv (.c (.i .i64 10)))))]) .ret)))))
def fn17 : AFn := (AFn.mk 24 [(.t 4), (.t 5), (.t 6)] (.seq (.ops [
  (.mk (some 4) none (.pure (.mv (.c (.i .i64 0))))), 
  (.mk (some 5) none (.pure (.mv (.c (.i .i64 0))))), 
  (.mk (some 6) none (.pure (.mv (.c (.i .i64 0)))))]) (.seq (.seq (.ops [
  (.mk (some 10) none (.pure (.mv (.t 0)))), 
  (.mk (some 11) none (.pure (.mv (.t 1)))), 
  (.mk (some 12) none (.call 48 [(.t 10), (.t 11)])), 
  (.mk (some 13) none (.pure (.not (.t 12))))]) (.cond (.t 13) (.seq (.ops [
  (.mk (some 4) none (.pure (.mv (.c (.i .i64 0))))), 
  (.mk (some 5) none (.pure (.mv (.c (.i .i64 0))))), 
  (.mk (some 6) none (.pure (.mv (.c (.i .i64 2)))))]) .ret) .skip)) (.seq (.ops [
  (.mk (some 15) none (.pure (.mv (.t 1)))), 
  (.mk (some 16) none (.call 49 [(.t 15)])), 
  (.mk (some 14) none (.pure (.mv (.t 16)))), 
  (.mk (some 17) none (.pure (.ext 0 (.t 14)))), 
  (.mk (some 18) none (.pure (.ext 1 (.t 14)))), 
  (.mk (some 19) none (.pure (.ext 2 (.t 14)))), 
  (.mk (some 7) none (.pure (.mv (.t 17)))), 
  (.mk (some 8) none (.pure (.mv (.t 18)))), 
  (.mk (some 9) none (.pure (.mv (.t 19))))]) (.seq (.seq (.ops [
  (.mk (some 20) none (.pure (.mv (.t 9)))), 
  (.mk (some 21) none (.pure (.not (.t 20))))]) (.cond (.t 21) (.seq (.ops [
  (.mk (some 4) none (.pure (.mv (.c (.i .i64 0))))), 
  (.mk (some 5) none (.pure (.mv (.c (.i .i64 0))))), 
  (.mk (some 6) none (.pure (.mv (.c (.i .i64 10)))))]) .ret) .skip)) (.seq (.ops [
  (.mk (some 22) none (.pure (.mv (.t 7)))), 
  (.mk (some 23) none (.pure (.mv (.t 8)))), 
  (.mk (some 4) none (.pure (.mv (.t 22)))), 
  (.mk (some 5) none (.pure (.mv (.t 23)))), 
  (.mk (some 6) none (.pure (.mv (.c (.i .i64 0)))))]) .ret))))))
def fn20 : AFn := (AFn.mk 26 [(.t 4)] (.seq (.ops [
  (.mk (some 4) none (.pure (.mv (.c (.b false)))))]) (.seq (.seq (.ops [
  (.mk (some 6) none (.pure (.mv (.t 0)))), 
  (.mk (some 7) none (.pure (.len false (.t 6)))), 
  (.mk (some 8) none (.pure (.mv (.t 1)))), 
  (.mk (some 9) none (.pure (.len false (.t 8)))), 
  (.mk (some 10) none (.pure (.bin .neq (.t 7) (.t 9))))]) (.cond (.t 10) (.seq (.ops [
  (.mk (some 4) none (.pure (.mv (.c (.b false)))))]) .ret) .skip)) (.seq (.seq (.ops [
  (.mk (some 5) none (.pure (.mv (.c (.i .i64 0)))))]) (.block 0 (.loop (.seq (.seq (.ops [
  (.mk (some 11) none (.pure (.mv (.t 5)))), 
  (.mk (some 12) none (.pure (.mv (.t 0)))), 
  (.mk (some 13) none (.pure (.len false (.t 12)))), 
  (.mk (some 14) none (.pure (.bin .lss (.t 11) (.t 13))))]) (.cond (.t 14) .skip (.exit 0))) (.seq (.block 1 (.seq (.any [(
  (.mk (some 17) none (.pure (.mv (.t 0)))), false), (
  (.mk (some 18) none (.pure (.mv (.t 5)))), false), (
  (.mk (some 19) none (.pure (.ixS 1 (.t 17) (.t 18)))), false), (
  (.mk (some 20) none (.ld true 1 (.t 19))), false), (
  (.mk (some 21) none (.pure (.mv (.t 1)))), false), (
  (.mk (some 22) none (.pure (.mv (.t 5)))), false), (
  (.mk (some 23) none (.pure (.ixS 1 (.t 21) (.t 22)))), false), (
  (.mk (some 24) none (.ld true 1 (.t 23))), false), (
  (.mk (some 25) none (.pure (.bin .neq (.t 20) (.t 24)))), false)]) (.cond (.t 25) (.seq (.ops [
  (.mk (some 4) none (.pure (.mv (.c (.b false)))))]) .ret) .skip))) (.ops [
  (.mk (some 15) none (.pure (.mv (.t 5)))), 
  (.mk (some 16) none (.pure (.bin .add (.t 15) (.c (.i .i64 1))))), 
  (.mk (some 5) none (.pure (.mv (.t 16))))])))))) (.seq (.ops [
  (.mk (some 4) none (.pure (.mv (.c (.b true)))))]) .ret)))))
def fn21 : AFn := (AFn.mk 22 [(.t 6), (.t 7)] (.seq (.ops [
  (.mk (some 6) none (.pure (.mv (.c .nsl)))), 
  (.mk (some 7) none (.pure (.mv (.c (.i .i64 0)))))]) (.seq (.seq (.ops [
  (.mk (some 9) none (.pure (.mv (.t 0)))), 
  (.mk (some 10) none (.pure (.mv (.t 1)))), 
  (.mk (some 11) none (.call 51 [(.t 9), (.t 10)])), 
  (.mk (some 8) none (.pure (.mv (.t 11))))]) (.seq (.ops [
  (.mk (some 12) none (.pure (.mv (.t 8)))), 
  (.mk (some 13) none (.pure (.bin .neq (.t 12) (.c (.i .i64 0)))))]) (.cond (.t 13) (.seq (.ops [
  (.mk (some 14) none (.pure (.mv (.t 8)))), 
  (.mk (some 6) none (.pure (.mv (.c .nsl)))), 
  (.mk (some 7) none (.pure (.mv (.t 14))))]) .ret) .skip))) (.seq (.seq (.ops [
  (.mk (some 15) none (.pure (.mv (.t 0)))), 
  (.mk (some 16) none (.pure (.mv (.t 2)))), 
  (.mk (some 17) none (.call 52 [(.t 15), (.t 16)])), 
  (.mk (some 18) none (.pure (.not (.t 17))))]) (.cond (.t 18) (.seq (.ops [
  (.mk (some 6) none (.pure (.mv (.c .nsl)))), 
  (.mk (some 7) none (.pure (.mv (.c (.i .i64 2)))))]) .ret) .skip)) (.seq (.ops [
  (.mk (some 19) none (.pure (.mv (.t 1)))), 
  (.mk (some 20) none (.pure (.mv (.t 2)))), 
  (.mk (some 21) none (.call 53 [(.t 19), (.t 20)])), 
  (.mk (some 6) none (.pure (.mv (.t 21)))), 
  (.mk (some 7) none (.pure (.mv (.c (.i .i64 0)))))]) .ret)))))
def fn25 : AFn := (AFn.mk 45 [(.t 6), (.t 7), (.t 8)] (.seq (.ops [
  (.mk (some 6) none (.pure (.mv (.c (.i .i64 0))))), 
  (.mk (some 7) none (.pure (.mv (.c (.b false))))), 
  (.mk (some 8) none (.pure (.mv (.c (.i .i64 0)))))]) (.seq (.seq (.ops [
  (.mk (some 11) none (.pure (.mv (.t 0)))), 
  (.mk (some 12) none (.pure (.mv (.t 1)))), 
  (.mk (some 13) none (.call 44 [(.t 11), (.t 12)])), 
  (.mk (some 14) none (.pure (.not (.t 13)))), 
  (.mk (some 15) none (.pure (.mv (.t 14)))), 
  (.mk (some 16) (some (15, false)) (.pure (.mv (.t 0)))), 
  (.mk (some 17) (some (15, false)) (.pure (.mv (.t 2)))), 
  (.mk (some 18) (some (15, false)) (.call 65 [(.t 16), (.t 17)])), 
  (.mk (some 19) (some (15, false)) (.pure (.not (.t 18)))), 
  (.mk (some 20) none (.pure (.pick (.t 15) (.c (.b true)) (.t 19))))]) (.cond (.t 20) (.seq (.ops [
  (.mk (some 6) none (.pure (.mv (.c (.i .i64 0))))), 
  (.mk (some 7) none (.pure (.mv (.c (.b false))))), 
  (.mk (some 8) none (.pure (.mv (.c (.i .i64 2)))))]) .ret) .skip)) (.seq (.seq (.ops [
  (.mk (some 21) none (.pure (.mv (.t 0)))), 
  (.mk (some 22) none (.pure (.mv (.t 1)))), 
  (.mk (some 23) none (.pure (.mv (.t 2)))), 
  (.mk (some 24) none (.call 66 [(.t 22), (.t 23)])), 
  (.mk (some 25) none (.bsl 53 1 [.nfn] 1 [((0, 1), (.t 24))])), 
  (.mk (some 26) none (.call 45 [(.t 21), (.t 25)])), 
  (.mk (some 9) none (.pure (.mv (.t 26))))]) (.seq (.ops [
  (.mk (some 27) none (.pure (.mv (.t 9)))), 
  (.mk (some 28) none (.pure (.len false (.t 27)))), 
  (.mk (some 29) none (.pure (.bin .gtr (.t 28) (.c (.i .i64 0)))))]) (.cond (.t 29) (.seq (.ops [
  (.mk (some 30) none (.pure (.mv (.t 9)))), 
  (.mk (some 31) none (.pure (.ixS 1 (.t 30) (.c (.i .i64 0))))), 
  (.mk (some 32) none (.ld true 1 (.t 31))), 
  (.mk (some 6) none (.pure (.mv (.t 32)))), 
  (.mk (some 7) none (.pure (.mv (.c (.b false))))), 
  (.mk (some 8) none (.pure (.mv (.c (.i .i64 0)))))]) .ret) .skip))) (.seq (.ops [
  (.mk (some 33) none (.pure (.mv (.t 0)))), 
  (.mk (some 34) none (.pure (.bin .shl (.c (.i .i64 1)) (.t 33)))), 
  (.mk (some 35) none (.pure (.bin .sub (.t 34) (.c (.i .i64 1))))), 
  (.mk (some 10) none (.pure (.mv (.t 35))))]) (.seq (.flt [(
  (.mk (some 36) none (.pure (.mv (.t 10)))), false), (
  (.mk (some 37) none (.pure (.mv (.t 2)))), false), (
  (.mk (some 38) none (.pure (.mv (.t 10)))), false), (
  (.mk (some 39) none (.call 67 [(.t 37), (.t 38)])), false), (
  (.mk (some 40) none (.pure (.mv (.t 1)))), false), (
  (.mk (some 41) none (.pure (.mv (.t 10)))), false), (
  (.mk (some 42) none (.pure (.ixS 1 (.t 40) (.t 41)))), false), (
  (.mk (some 43) none (.ld true 1 (.t 42))), true), (
  (.mk (some 44) none (.pure (.bin .eql (.t 39) (.t 43)))), false), (
  (.mk (some 6) none (.pure (.mv (.t 36)))), false), (
  (.mk (some 7) none (.pure (.mv (.t 44)))), false), (
  (.mk (some 8) none (.pure (.mv (.c (.i .i64 0))))), false)]) .ret))))))
def fn27 : AFn := (AFn.mk 49 [(.t 6), (.t 7), (.t 8)] (.seq (.ops [
  (.mk (some 6) none (.pure (.mv (.c (.i .i64 0))))), 
  (.mk (some 7) none (.pure (.mv (.c (.b false))))), 
  (.mk (some 8) none (.pure (.mv (.c (.i .i64 0)))))]) (.seq (.seq (.ops [
  (.mk (some 16) none (.pure (.mv (.t 0)))), 
  (.mk (some 17) none (.pure (.mv (.t 1)))), 
  (.mk (some 18) none (.call 51 [(.t 16), (.t 17)])), 
  (.mk (some 9) none (.pure (.mv (.t 18))))]) (.seq (.ops [
  (.mk (some 19) none (.pure (.mv (.t 9)))), 
  (.mk (some 20) none (.pure (.bin .neq (.t 19) (.c (.i .i64 0)))))]) (.cond (.t 20) (.seq (.ops [
  (.mk (some 21) none (.pure (.mv (.t 9)))), 
  (.mk (some 6) none (.pure (.mv (.c (.i .i64 0))))), 
  (.mk (some 7) none (.pure (.mv (.c (.b false))))), 
  (.mk (some 8) none (.pure (.mv (.t 21))))]) .ret) .skip))) (.seq (.ops [
  (.mk (some 23) none (.pure (.mv (.t 0)))), 
  (.mk (some 24) none (.pure (.mv (.t 1)))), 
  (.mk (some 25) none (.pure (.mv (.t 2)))), 
  (.mk (some 26) none (.call 25 [(.t 23), (.t 24), (.t 25)])), 
  (.mk (some 22) none (.pure (.mv (.t 26)))), 
  (.mk (some 27) none (.pure (.ext 0 (.t 22)))), 
  (.mk (some 28) none (.pure (.ext 1 (.t 22)))), 
  (.mk (some 29) none (.pure (.ext 2 (.t 22)))), 
  (.mk (some 10) none (.pure (.mv (.t 27)))), 
  (.mk (some 11) none (.pure (.mv (.t 28)))), 
  (.mk (some 12) none (.pure (.mv (.t 29))))]) (.seq (.seq (.ops [
  (.mk (some 30) none (.pure (.mv (.t 12)))), 
  (.mk (some 31) none (.pure (.bin .neq (.t 30) (.c (.i .i64 0))))), 
  (.mk (some 32) none (.pure (.mv (.t 31)))), 
  (.mk (some 33) (some (32, false)) (.pure (.mv (.t 11)))), 
  (.mk (some 34) (some (32, false)) (.pure (.not (.t 33)))), 
  (.mk (some 35) none (.pure (.pick (.t 32) (.c (.b true)) (.t 34))))]) (.cond (.t 35) (.seq (.ops [
  (.mk (some 36) none (.pure (.mv (.t 12)))), 
  (.mk (some 6) none (.pure (.mv (.c (.i .i64 0))))), 
  (.mk (some 7) none (.pure (.mv (.c (.b false))))), 
  (.mk (some 8) none (.pure (.mv (.t 36))))]) .ret) .skip)) (.seq (.ops [
  (.mk (some 13) none (.pure (.mv (.c (.i .i64 0)))))]) (.seq (.seq (.ops [
  (.mk (some 37) none (.pure (.mv (.t 2)))), 
  (.mk (some 38) none (.pure (.len false (.t 37)))), 
  (.mk (some 39) none (.pure (.mv (.c (.i .i64 0)))))]) (.block 0 (.loop (.seq (.ops [
  (.mk (some 40) none (.pure (.bin .lss (.t 39) (.t 38))))]) (.seq (.cond (.t 40) .skip (.exit 0)) (.seq (.block 1 (.seq (.ops [
  (.mk (some 41) none (.pure (.ixS 1 (.t 37) (.t 39)))), 
  (.mk (some 42) none (.ld true 1 (.t 41))), 
  (.mk (some 15) none (.pure (.mv (.t 42))))]) (.ops [
  (.mk (some 43) none (.pure (.mv (.t 13)))), 
  (.mk (some 44) none (.pure (.mv (.t 15)))), 
  (.mk (some 45) none (.pure (.mx false (.t 44) (.c (.i .i64 0))))), 
  (.mk (some 46) none (.pure (.bin .add (.t 43) (.t 45)))), 
  (.mk (some 13) none (.pure (.mv (.t 46))))]))) (.ops [
  (.mk (some 47) none (.pure (.bin .add (.t 39) (.c (.i .i64 1))))), 
  (.mk (some 39) none (.pure (.mv (.t 47))))]))))))) (.seq (.ops [
  (.mk (some 48) none (.pure (.mv (.t 13)))), 
  (.mk (some 6) none (.pure (.mv (.t 48)))), 
  (.mk (some 7) none (.pure (.mv (.c (.b true))))), 
  (.mk (some 8) none (.pure (.mv (.c (.i .i64 0)))))]) .ret))))))))
def fn29 : AFn := (AFn.mk 37 [(.t 4), (.t 5), (.t 6), (.t 7)] (.seq (.ops [
  (.mk (some 4) none (.pure (.mv (.c (.i .i64 0))))), 
  (.mk (some 5) none (.pure (.mv (.c (.i .i64 0))))), 
  (.mk (some 6) none (.pure (.mv (.c (.i .i64 0))))), 
  (.mk (some 7) none (.pure (.mv (.c (.i .i64 0)))))]) (.seq (.seq (.ops [
  (.mk (some 11) none (.pure (.mv (.t 0)))), 
  (.mk (some 12) none (.pure (.mv (.t 1)))), 
  (.mk (some 13) none (.call 51 [(.t 11), (.t 12)])), 
  (.mk (some 8) none (.pure (.mv (.t 13))))]) (.seq (.ops [
  (.mk (some 14) none (.pure (.mv (.t 8)))), 
  (.mk (some 15) none (.pure (.bin .neq (.t 14) (.c (.i .i64 0)))))]) (.cond (.t 15) (.seq (.ops [
  (.mk (some 16) none (.pure (.mv (.t 8)))), 
  (.mk (some 4) none (.pure (.mv (.c (.i .i64 0))))), 
  (.mk (some 5) none (.pure (.mv (.c (.i .i64 0))))), 
  (.mk (some 6) none (.pure (.mv (.c (.i .i64 0))))), 
  (.mk (some 7) none (.pure (.mv (.t 16))))]) .ret) .skip))) (.seq (.ops [
  (.mk (some 17) none (.pure (.mv (.t 1)))), 
  (.mk (some 18) none (.pure (.mv (.t 0)))), 
  (.mk (some 19) none (.call 45 [(.t 18), (.c .nsl)])), 
  (.mk (some 20) none (.call 70 [(.t 17), (.t 19)])), 
  (.mk (some 9) none (.pure (.mv (.t 20))))]) (.seq (.ops [
  (.mk (some 21) none (.pure (.mv (.t 0)))), 
  (.mk (some 22) none (.pure (.mv (.t 1)))), 
  (.mk (some 23) none (.pure (.mv (.t 9)))), 
  (.mk (some 24) none (.call 71 [(.t 22), (.t 23)])), 
  (.mk (some 25) none (.bsl 53 1 [.nfn] 1 [((0, 1), (.t 24))])), 
  (.mk (some 26) none (.call 45 [(.t 21), (.t 25)])), 
  (.mk (some 10) none (.pure (.mv (.t 26))))]) (.seq (.any [(
  (.mk (some 27) none (.pure (.mv (.t 9)))), false), (
  (.mk (some 28) none (.pure (.mv (.t 10)))), false), (
  (.mk (some 29) none (.pure (.ixS 1 (.t 28) (.c (.i .i64 0))))), false), (
  (.mk (some 30) none (.ld true 1 (.t 29))), false), (
  (.mk (some 31) none (.pure (.mv (.t 10)))), false), (
  (.mk (some 32) none (.pure (.mv (.t 10)))), false), (
  (.mk (some 33) none (.pure (.len false (.t 32)))), false), (
  (.mk (some 34) none (.pure (.bin .sub (.t 33) (.c (.i .i64 1))))), false), (
  (.mk (some 35) none (.pure (.ixS 1 (.t 31) (.t 34)))), false), (
  (.mk (some 36) none (.ld true 1 (.t 35))), false), (
  (.mk (some 4) none (.pure (.mv (.t 27)))), false), (
  (.mk (some 5) none (.pure (.mv (.t 30)))), false), (
  (.mk (some 6) none (.pure (.mv (.t 36)))), false), (
  (.mk (some 7) none (.pure (.mv (.c (.i .i64 0))))), false)]) .ret))))))
def fn31 : AFn := (AFn.mk 67 [(.t 4), (.t 5)] (.seq (.ops [
  (.mk (some 4) none (.pure (.mv (.c .nsl)))), 
  (.mk (some 5) none (.pure (.mv (.c (.i .i64 0)))))]) (.seq (.ops [
  (.mk (some 15) none (.pure (.mv (.t 0)))), 
  (.mk (some 16) none (.pure (.mv (.t 1)))), 
  (.mk (some 17) none (.call 29 [(.t 15), (.t 16)])), 
  (.mk (some 14) none (.pure (.mv (.t 17)))), 
  (.mk (some 18) none (.pure (.ext 0 (.t 14)))), 
  (.mk (some 19) none (.pure (.ext 1 (.t 14)))), 
  (.mk (some 20) none (.pure (.ext 2 (.t 14)))), 
  (.mk (some 21) none (.pure (.ext 3 (.t 14)))), 
  (.mk (some 6) none (.pure (.mv (.t 18)))), 
  (.mk (some 7) none (.pure (.mv (.t 19)))), 
  (.mk (some 8) none (.pure (.mv (.t 20)))), 
  (.mk (some 9) none (.pure (.mv (.t 21))))]) (.seq (.seq (.ops [
  (.mk (some 22) none (.pure (.mv (.t 9)))), 
  (.mk (some 23) none (.pure (.bin .neq (.t 22) (.c (.i .i64 0)))))]) (.cond (.t 23) (.seq (.ops [
  (.mk (some 24) none (.pure (.mv (.t 9)))), 
  (.mk (some 4) none (.pure (.mv (.c .nsl)))), 
  (.mk (some 5) none (.pure (.mv (.t 24))))]) .ret) .skip)) (.seq (.ops [
  (.mk (some 25) none (.pure (.mv (.t 1)))), 
  (.mk (some 26) none (.pure (.len false (.t 25)))), 
  (.mk (some 27) none (.mk 3 1 8 [(.i .i64 0)] (.t 26) (.t 26))), 
  (.mk (some 10) none (.pure (.mv (.t 27))))]) (.seq (.seq (.ops [
  (.mk (some 28) none (.pure (.mv (.t 10)))), 
  (.mk (some 29) none (.pure (.len false (.t 28)))), 
  (.mk (some 30) none (.pure (.mv (.c (.i .i64 0)))))]) (.block 0 (.loop (.seq (.ops [
  (.mk (some 31) none (.pure (.bin .lss (.t 30) (.t 29))))]) (.seq (.cond (.t 31) .skip (.exit 0)) (.seq (.block 1 (.seq (.ops [
  (.mk (some 32) none (.pure (.mv (.t 30)))), 
  (.mk (some 11) none (.pure (.mv (.t 32))))]) (.seq (.ops [
  (.mk (some 33) none (.pure (.mv (.t 1)))), 
  (.mk (some 34) none (.pure (.mv (.t 0)))), 
  (.mk (some 35) none (.pure (.mv (.t 11)))), 
  (.mk (some 36) none (.pure (.mv (.t 7)))), 
  (.mk (some 37) none (.pure (.bin .and (.t 35) (.t 36)))), 
  (.mk (some 38) none (.call 73 [(.t 37)])), 
  (.mk (some 39) none (.bsl 53 1 [.nfn] 1 [((0, 1), (.t 38))])), 
  (.mk (some 40) none (.call 45 [(.t 34), (.t 39)])), 
  (.mk (some 41) none (.call 70 [(.t 33), (.t 40)])), 
  (.mk (some 12) none (.pure (.mv (.t 41))))]) (.seq (.ops [
  (.mk (some 42) none (.pure (.mv (.t 1)))), 
  (.mk (some 43) none (.pure (.mv (.t 0)))), 
  (.mk (some 44) none (.pure (.mv (.t 11)))), 
  (.mk (some 45) none (.pure (.mv (.t 7)))), 
  (.mk (some 46) none (.pure (.bin .or (.t 44) (.t 45)))), 
  (.mk (some 47) none (.call 74 [(.t 46)])), 
  (.mk (some 48) none (.bsl 53 1 [.nfn] 1 [((0, 1), (.t 47))])), 
  (.mk (some 49) none (.call 45 [(.t 43), (.t 48)])), 
  (.mk (some 50) none (.call 70 [(.t 42), (.t 49)])), 
  (.mk (some 13) none (.pure (.mv (.t 50))))]) (.ops [
  (.mk (some 51) none (.pure (.mv (.t 10)))), 
  (.mk (some 52) none (.pure (.mv (.t 11)))), 
  (.mk (some 53) none (.pure (.mv (.t 12)))), 
  (.mk (some 54) none (.pure (.mv (.t 13)))), 
  (.mk (some 55) none (.pure (.bin .add (.t 53) (.t 54)))), 
  (.mk (some 56) none (.pure (.mv (.t 1)))), 
  (.mk (some 57) none (.pure (.mv (.t 7)))), 
  (.mk (some 58) none (.pure (.ixS 1 (.t 56) (.t 57)))), 
  (.mk (some 59) none (.ld true 1 (.t 58))), 
  (.mk (some 60) none (.pure (.bin .sub (.t 55) (.t 59)))), 
  (.mk (some 61) none (.pure (.ixS 1 (.t 51) (.t 52)))), 
  (.mk none none (.st 1 (.t 61) (.t 60)))]))))) (.ops [
  (.mk (some 62) none (.pure (.bin .add (.t 30) (.c (.i .i64 1))))), 
  (.mk (some 30) none (.pure (.mv (.t 62))))]))))))) (.seq (.ops [
  (.mk (some 63) none (.pure (.mv (.t 10)))), 
  (.mk (some 64) none (.pure (.mv (.t 0)))), 
  (.mk (some 65) none (.call 75 [(.t 64)])), 
  (.mk (some 66) none (.call 53 [(.t 63), (.t 65)])), 
  (.mk (some 4) none (.pure (.mv (.t 66)))), 
  (.mk (some 5) none (.pure (.mv (.c (.i .i64 0)))))]) .ret)))))))
def fn33 : AFn := (AFn.mk 35 [(.t 6), (.t 7)] (.seq (.ops [
  (.mk (some 6) none (.pure (.mv (.c (.i .i64 0))))), 
  (.mk (some 7) none (.pure (.mv (.c (.i .i64 0)))))]) (.seq (.seq (.ops [
  (.mk (some 10) none (.pure (.mv (.t 0)))), 
  (.mk (some 11) none (.pure (.mv (.t 1)))), 
  (.mk (some 12) none (.call 44 [(.t 10), (.t 11)])), 
  (.mk (some 13) none (.pure (.not (.t 12)))), 
  (.mk (some 14) none (.pure (.mv (.t 13)))), 
  (.mk (some 15) (some (14, false)) (.pure (.mv (.t 0)))), 
  (.mk (some 16) (some (14, false)) (.pure (.mv (.t 2)))), 
  (.mk (some 17) (some (14, false)) (.call 78 [(.t 15), (.t 16)])), 
  (.mk (some 18) (some (14, false)) (.pure (.not (.t 17)))), 
  (.mk (some 19) none (.pure (.pick (.t 14) (.c (.b true)) (.t 18))))]) (.cond (.t 19) (.seq (.ops [
  (.mk (some 6) none (.pure (.mv (.c (.i .i64 0))))), 
  (.mk (some 7) none (.pure (.mv (.c (.i .i64 2)))))]) .ret) .skip)) (.seq (.ops [
  (.mk (some 8) none (.pure (.mv (.c (.i .i64 0)))))]) (.seq (.seq (.ops [
  (.mk (some 9) none (.pure (.mv (.c (.i .i64 1)))))]) (.block 0 (.loop (.seq (.seq (.ops [
  (.mk (some 20) none (.pure (.mv (.t 9)))), 
  (.mk (some 21) none (.pure (.mv (.t 2)))), 
  (.mk (some 22) none (.call 79 [(.t 21)])), 
  (.mk (some 23) none (.pure (.bin .leq (.t 20) (.t 22))))]) (.cond (.t 23) .skip (.exit 0))) (.seq (.block 1 (.ops [
  (.mk (some 26) none (.pure (.mv (.t 8)))), 
  (.mk (some 27) none (.pure (.mv (.t 1)))), 
  (.mk (some 28) none (.pure (.mv (.t 2)))), 
  (.mk (some 29) none (.pure (.mv (.t 9)))), 
  (.mk (some 30) none (.call 80 [(.t 28), (.t 29)])), 
  (.mk (some 31) none (.pure (.ixS 1 (.t 27) (.t 30)))), 
  (.mk (some 32) none (.ld true 1 (.t 31))), 
  (.mk (some 33) none (.pure (.bin .add (.t 26) (.t 32)))), 
  (.mk (some 8) none (.pure (.mv (.t 33))))])) (.ops [
  (.mk (some 24) none (.pure (.mv (.t 9)))), 
  (.mk (some 25) none (.pure (.bin .add (.t 24) (.c (.i .i64 1))))), 
  (.mk (some 9) none (.pure (.mv (.t 25))))])))))) (.seq (.ops [
  (.mk (some 34) none (.pure (.mv (.t 8)))), 
  (.mk (some 6) none (.pure (.mv (.t 34)))), 
  (.mk (some 7) none (.pure (.mv (.c (.i .i64 0)))))]) .ret))))))
def fn39 : AFn := (AFn.mk 17 [(.t 4)] (.seq (.ops [
  (.mk (some 4) none (.pure (.mv (.c (.b false)))))]) (.seq (.ops [
  (.mk (some 9) none (.pure (.mv (.t 0)))), 
  (.mk (some 10) none (.pure (.mv (.t 1)))), 
  (.mk (some 11) none (.call 17 [(.t 9), (.t 10)])), 
  (.mk (some 8) none (.pure (.mv (.t 11)))), 
  (.mk (some 12) none (.pure (.ext 0 (.t 8)))), 
  (.mk (some 13) none (.pure (.ext 1 (.t 8)))), 
  (.mk (some 14) none (.pure (.ext 2 (.t 8)))), 
  (.mk (some 5) none (.pure (.mv (.t 12)))), 
  (.mk (some 6) none (.pure (.mv (.t 13)))), 
  (.mk (some 7) none (.pure (.mv (.t 14))))]) (.seq (.ops [
  (.mk (some 15) none (.pure (.mv (.t 7)))), 
  (.mk (some 16) none (.pure (.bin .eql (.t 15) (.c (.i .i64 10))))), 
  (.mk (some 4) none (.pure (.mv (.t 16))))]) .ret))))
def fn42 : AFn := (AFn.mk 36 [(.t 4)] (.seq (.ops [
  (.mk (some 4) none (.pure (.mv (.c (.b false)))))]) (.seq (.seq (.ops [
  (.mk (some 5) none (.pure (.mv (.c (.i .i64 0)))))]) (.block 0 (.loop (.seq (.seq (.ops [
  (.mk (some 6) none (.pure (.mv (.t 5)))), 
  (.mk (some 7) none (.pure (.mv (.t 0)))), 
  (.mk (some 8) none (.pure (.len false (.t 7)))), 
  (.mk (some 9) none (.pure (.bin .lss (.t 6) (.t 8)))), 
  (.mk (some 10) none (.pure (.mv (.t 9)))), 
  (.mk (some 11) (some (10, true)) (.pure (.mv (.t 5)))), 
  (.mk (some 12) (some (10, true)) (.pure (.mv (.t 1)))), 
  (.mk (some 13) (some (10, true)) (.pure (.len false (.t 12)))), 
  (.mk (some 14) (some (10, true)) (.pure (.bin .lss (.t 11) (.t 13)))), 
  (.mk (some 15) none (.pure (.pick (.t 10) (.t 14) (.c (.b false)))))]) (.cond (.t 15) .skip (.exit 0))) (.seq (.block 1 (.seq (.any [(
  (.mk (some 18) none (.pure (.mv (.t 0)))), false), (
  (.mk (some 19) none (.pure (.mv (.t 5)))), false), (
  (.mk (some 20) none (.pure (.ixS 1 (.t 18) (.t 19)))), false), (
  (.mk (some 21) none (.ld true 1 (.t 20))), false), (
  (.mk (some 22) none (.pure (.mv (.t 1)))), false), (
  (.mk (some 23) none (.pure (.mv (.t 5)))), false), (
  (.mk (some 24) none (.pure (.ixS 1 (.t 22) (.t 23)))), false), (
  (.mk (some 25) none (.ld true 1 (.t 24))), false), (
  (.mk (some 26) none (.pure (.bin .neq (.t 21) (.t 25)))), false)]) (.cond (.t 26) (.seq (.any [(
  (.mk (some 27) none (.pure (.mv (.t 0)))), false), (
  (.mk (some 28) none (.pure (.mv (.t 5)))), false), (
  (.mk (some 29) none (.pure (.ixS 1 (.t 27) (.t 28)))), false), (
  (.mk (some 30) none (.ld true 1 (.t 29))), false), (
  (.mk (some 31) none (.pure (.mv (.t 1)))), false), (
  (.mk (some 32) none (.pure (.mv (.t 5)))), false), (
  (.mk (some 33) none (.pure (.ixS 1 (.t 31) (.t 32)))), false), (
  (.mk (some 34) none (.ld true 1 (.t 33))), false), (
  (.mk (some 35) none (.pure (.bin .lss (.t 30) (.t 34)))), false), (
  (.mk (some 4) none (.pure (.mv (.t 35)))), false)]) .ret) .skip))) (.ops [
  (.mk (some 16) none (.pure (.mv (.t 5)))), 
  (.mk (some 17) none (.pure (.bin .add (.t 16) (.c (.i .i64 1))))), 
  (.mk (some 5) none (.pure (.mv (.t 17))))])))))) (.seq (.ops [
  (.mk (some 4) none (.pure (.mv (.c (.b false)))))]) .ret))))
def fn44 : AFn := (AFn.mk 24 [(.t 4)] (.seq (.ops [
  (.mk (some 4) none (.pure (.mv (.c (.b false)))))]) (.seq (.ops [
  (.mk (some 5) none (.pure (.mv (.t 0)))), 
  (.mk (some 6) none (.call 84 [(.t 5)])), 
  (.mk (some 7) none (.pure (.mv (.t 6)))), 
  (.mk (some 8) (some (7, true)) (.pure (.mv (.t 1)))), 
  (.mk (some 9) (some (7, true)) (.pure (.len false (.t 8)))), 
  (.mk (some 10) (some (7, true)) (.pure (.mv (.t 0)))), 
  (.mk (some 11) (some (7, true)) (.pure (.bin .shl (.c (.i .i64 1)) (.t 10)))), 
  (.mk (some 12) (some (7, true)) (.pure (.bin .eql (.t 9) (.t 11)))), 
  (.mk (some 13) none (.pure (.pick (.t 7) (.t 12) (.c (.b false))))), 
  (.mk (some 14) none (.pure (.mv (.t 13)))), 
  (.mk (some 15) (some (14, true)) (.pure (.mv (.t 1)))), 
  (.mk (some 16) (some (14, true)) (.pure (.ixS 1 (.t 15) (.c (.i .i64 0))))), 
  (.mk (some 17) (some (14, true)) (.ld true 1 (.t 16))), 
  (.mk (some 18) (some (14, true)) (.pure (.bin .eql (.t 17) (.c (.i .i64 0))))), 
  (.mk (some 19) none (.pure (.pick (.t 14) (.t 18) (.c (.b false))))), 
  (.mk (some 20) none (.pure (.mv (.t 19)))), 
  (.mk (some 21) (some (20, true)) (.pure (.mv (.t 1)))), 
  (.mk (some 22) (some (20, true)) (.call 87 [(.t 21), (.c (.i .i64 1000000))])), 
  (.mk (some 23) none (.pure (.pick (.t 20) (.t 22) (.c (.b false))))), 
  (.mk (some 4) none (.pure (.mv (.t 23))))]) .ret)))
def fn45 : AFn := (AFn.mk 21 [(.t 4)] (.seq (.ops [
  (.mk (some 4) none (.pure (.mv (.c .nsl))))]) (.seq (.ops [
  (.mk (some 5) none (.pure (.mv (.c .nsl))))]) (.seq (.seq (.ops [
  (.mk (some 7) none (.pure (.mv (.t 0)))), 
  (.mk (some 8) none (.pure (.bin .shl (.c (.i .i64 1)) (.t 7)))), 
  (.mk (some 9) none (.pure (.mv (.c (.i .i64 0)))))]) (.block 0 (.loop (.seq (.ops [
  (.mk (some 10) none (.pure (.bin .lss (.t 9) (.t 8))))]) (.seq (.cond (.t 10) .skip (.exit 0)) (.seq (.block 1 (.seq (.ops [
  (.mk (some 11) none (.pure (.mv (.t 9)))), 
  (.mk (some 6) none (.pure (.mv (.t 11))))]) (.seq (.ops [
  (.mk (some 12) none (.pure (.mv (.t 6)))), 
  (.mk (some 13) none (.pure (.mv (.t 1)))), 
  (.mk (some 14) none (.call 88 [(.t 12), (.t 13)]))]) (.cond (.t 14) (.ops [
  (.mk (some 15) none (.pure (.mv (.t 5)))), 
  (.mk (some 16) none (.pure (.mv (.t 6)))), 
  (.mk (some 17) none (.bsl 3 1 [(.i .i64 0)] 1 [((0, 1), (.t 16))])), 
  (.mk (some 18) none (.app 3 1 8 [(.i .i64 0)] (.t 15) (.t 17))), 
  (.mk (some 5) none (.pure (.mv (.t 18))))]) .skip)))) (.ops [
  (.mk (some 19) none (.pure (.bin .add (.t 9) (.c (.i .i64 1))))), 
  (.mk (some 9) none (.pure (.mv (.t 19))))]))))))) (.seq (.ops [
  (.mk (some 20) none (.pure (.mv (.t 5)))), 
  (.mk (some 4) none (.pure (.mv (.t 20))))]) .ret)))))
def fn46 : AFn := (AFn.mk 4 [(.t 2)] (.seq (.ops [
  (.mk (some 1) none (.bx 3 1 (.t 0))), 
  (.mk (some 2) none (.pure (.mv (.c .nfn))))]) (.seq (.ops [
  (.mk (some 3) none (.pure (.mkfn 89 [] [(.t 1)]))), 
  (.mk (some 2) none (.pure (.mv (.t 3))))]) .ret)))
def fn47 : AFn := (AFn.mk 6 [(.t 4)] (.seq (.ops [
  (.mk (some 2) none (.bx 22 1 (.t 0))), 
  (.mk (some 3) none (.bx 3 1 (.t 1))), 
  (.mk (some 4) none (.pure (.mv (.c .nfn))))]) (.seq (.ops [
  (.mk (some 5) none (.pure (.mkfn 90 [] [(.t 2), (.t 3)]))), 
  (.mk (some 4) none (.pure (.mv (.t 5))))]) .ret)))
def fn48 : AFn := (AFn.mk 43 [(.t 4)] (.seq (.ops [
  (.mk (some 4) none (.pure (.mv (.c (.b false)))))]) (.seq (.seq (.ops [
  (.mk (some 6) none (.pure (.mv (.t 0)))), 
  (.mk (some 7) none (.pure (.bin .lss (.t 6) (.c (.i .i64 1))))), 
  (.mk (some 8) none (.pure (.mv (.t 7)))), 
  (.mk (some 9) (some (8, false)) (.pure (.mv (.t 0)))), 
  (.mk (some 10) (some (8, false)) (.pure (.bin .gtr (.t 9) (.c (.i .i64 6))))), 
  (.mk (some 11) none (.pure (.pick (.t 8) (.c (.b true)) (.t 10)))), 
  (.mk (some 12) none (.pure (.mv (.t 11)))), 
  (.mk (some 13) (some (12, false)) (.pure (.mv (.t 1)))), 
  (.mk (some 14) (some (12, false)) (.pure (.len false (.t 13)))), 
  (.mk (some 15) (some (12, false)) (.pure (.mv (.t 0)))), 
  (.mk (some 16) (some (12, false)) (.pure (.bin .shl (.c (.i .i64 1)) (.t 15)))), 
  (.mk (some 17) (some (12, false)) (.pure (.bin .neq (.t 14) (.t 16)))), 
  (.mk (some 18) none (.pure (.pick (.t 12) (.c (.b true)) (.t 17)))), 
  (.mk (some 19) none (.pure (.mv (.t 18)))), 
  (.mk (some 20) (some (19, false)) (.pure (.mv (.t 1)))), 
  (.mk (some 21) (some (19, false)) (.pure (.ixS 1 (.t 20) (.c (.i .i64 0))))), 
  (.mk (some 22) (some (19, false)) (.ld true 1 (.t 21))), 
  (.mk (some 23) (some (19, false)) (.pure (.bin .neq (.t 22) (.c (.i .i64 0))))), 
  (.mk (some 24) none (.pure (.pick (.t 19) (.c (.b true)) (.t 23))))]) (.cond (.t 24) (.seq (.ops [
  (.mk (some 4) none (.pure (.mv (.c (.b false)))))]) .ret) .skip)) (.seq (.seq (.ops [
  (.mk (some 5) none (.pure (.mv (.c (.i .i64 0)))))]) (.block 0 (.loop (.seq (.seq (.ops [
  (.mk (some 25) none (.pure (.mv (.t 5)))), 
  (.mk (some 26) none (.pure (.mv (.t 1)))), 
  (.mk (some 27) none (.pure (.len false (.t 26)))), 
  (.mk (some 28) none (.pure (.bin .lss (.t 25) (.t 27))))]) (.cond (.t 28) .skip (.exit 0))) (.seq (.block 1 (.seq (.ops [
  (.mk (some 31) none (.pure (.mv (.t 1)))), 
  (.mk (some 32) none (.pure (.mv (.t 5)))), 
  (.mk (some 33) none (.pure (.ixS 1 (.t 31) (.t 32)))), 
  (.mk (some 34) none (.ld true 1 (.t 33))), 
  (.mk (some 35) none (.pure (.bin .lss (.t 34) (.c (.i .i64 (-1000000)))))), 
  (.mk (some 36) none (.pure (.mv (.t 35)))), 
  (.mk (some 37) (some (36, false)) (.pure (.mv (.t 1)))), 
  (.mk (some 38) (some (36, false)) (.pure (.mv (.t 5)))), 
  (.mk (some 39) (some (36, false)) (.pure (.ixS 1 (.t 37) (.t 38)))), 
  (.mk (some 40) (some (36, false)) (.ld true 1 (.t 39))), 
  (.mk (some 41) (some (36, false)) (.pure (.bin .gtr (.t 40) (.c (.i .i64 1000000))))), 
  (.mk (some 42) none (.pure (.pick (.t 36) (.c (.b true)) (.t 41))))]) (.cond (.t 42) (.seq (.ops [
  (.mk (some 4) none (.pure (.mv (.c (.b false)))))]) .ret) .skip))) (.ops [
  (.mk (some 29) none (.pure (.mv (.t 5)))), 
  (.mk (some 30) none (.pure (.bin .add (.t 29) (.c (.i .i64 1))))), 
  (.mk (some 5) none (.pure (.mv (.t 30))))])))))) (.seq (.ops [
  (.mk (some 4) none (.pure (.mv (.c (.b true)))))]) .ret)))))
def fn49 : AFn := (AFn.mk 46 [(.t 2), (.t 3), (.t 4)] (.seq (.ops [
  (.mk (some 2) none (.pure (.mv (.c (.i .i64 0))))), 
  (.mk (some 3) none (.pure (.mv (.c (.i .i64 0))))), 
  (.mk (some 4) none (.pure (.mv (.c (.b false)))))]) (.seq (.seq (.ops [
  (.mk (some 5) none (.pure (.mv (.c (.i .i64 0)))))]) (.block 0 (.loop (.seq (.seq (.ops [
  (.mk (some 7) none (.pure (.mv (.t 5)))), 
  (.mk (some 8) none (.pure (.mv (.t 0)))), 
  (.mk (some 9) none (.pure (.len false (.t 8)))), 
  (.mk (some 10) none (.pure (.bin .lss (.t 7) (.t 9))))]) (.cond (.t 10) .skip (.exit 0))) (.seq (.block 1 (.seq (.ops [
  (.mk (some 13) none (.pure (.mv (.t 5)))), 
  (.mk (some 14) none (.pure (.bin .add (.t 13) (.c (.i .i64 1))))), 
  (.mk (some 6) none (.pure (.mv (.t 14))))]) (.block 2 (.loop (.seq (.seq (.ops [
  (.mk (some 15) none (.pure (.mv (.t 6)))), 
  (.mk (some 16) none (.pure (.mv (.t 0)))), 
  (.mk (some 17) none (.pure (.len false (.t 16)))), 
  (.mk (some 18) none (.pure (.bin .lss (.t 15) (.t 17))))]) (.cond (.t 18) .skip (.exit 2))) (.seq (.block 3 (.seq (.any [(
  (.mk (some 21) none (.pure (.mv (.t 0)))), false), (
  (.mk (some 22) none (.pure (.mv (.t 5)))), false), (
  (.mk (some 23) none (.pure (.ixS 1 (.t 21) (.t 22)))), false), (
  (.mk (some 24) none (.ld true 1 (.t 23))), false), (
  (.mk (some 25) none (.pure (.mv (.t 0)))), false), (
  (.mk (some 26) none (.pure (.mv (.t 6)))), false), (
  (.mk (some 27) none (.pure (.ixS 1 (.t 25) (.t 26)))), false), (
  (.mk (some 28) none (.ld true 1 (.t 27))), false), (
  (.mk (some 29) none (.pure (.bin .add (.t 24) (.t 28)))), false), (
  (.mk (some 30) none (.pure (.mv (.t 0)))), false), (
  (.mk (some 31) none (.pure (.mv (.t 5)))), false), (
  (.mk (some 32) none (.pure (.mv (.t 6)))), false), (
  (.mk (some 33) none (.pure (.bin .or (.t 31) (.t 32)))), false), (
  (.mk (some 34) none (.pure (.ixS 1 (.t 30) (.t 33)))), false), (
  (.mk (some 35) none (.ld true 1 (.t 34))), false), (
  (.mk (some 36) none (.pure (.mv (.t 0)))), false), (
  (.mk (some 37) none (.pure (.mv (.t 5)))), false), (
  (.mk (some 38) none (.pure (.mv (.t 6)))), false), (
  (.mk (some 39) none (.pure (.bin .and (.t 37) (.t 38)))), false), (
  (.mk (some 40) none (.pure (.ixS 1 (.t 36) (.t 39)))), false), (
  (.mk (some 41) none (.ld true 1 (.t 40))), false), (
  (.mk (some 42) none (.pure (.bin .add (.t 35) (.t 41)))), false), (
  (.mk (some 43) none (.pure (.bin .lss (.t 29) (.t 42)))), false)]) (.cond (.t 43) (.seq (.ops [
  (.mk (some 44) none (.pure (.mv (.t 5)))), 
  (.mk (some 45) none (.pure (.mv (.t 6)))), 
  (.mk (some 2) none (.pure (.mv (.t 44)))), 
  (.mk (some 3) none (.pure (.mv (.t 45)))), 
  (.mk (some 4) none (.pure (.mv (.c (.b true)))))]) .ret) .skip))) (.ops [
  (.mk (some 19) none (.pure (.mv (.t 6)))), 
  (.mk (some 20) none (.pure (.bin .add (.t 19) (.c (.i .i64 1))))), 
  (.mk (some 6) none (.pure (.mv (.t 20))))]))))))) (.ops [
  (.mk (some 11) none (.pure (.mv (.t 5)))), 
  (.mk (some 12) none (.pure (.bin .add (.t 11) (.c (.i .i64 1))))), 
  (.mk (some 5) none (.pure (.mv (.t 12))))])))))) (.seq (.ops [
  (.mk (some 2) none (.pure (.mv (.c (.i .i64 0))))), 
  (.mk (some 3) none (.pure (.mv (.c (.i .i64 0))))), 
  (.mk (some 4) none (.pure (.mv (.c (.b false)))))]) .ret))))
def fn50 : AFn := (AFn.mk 14 [(.t 4)] (.seq (.ops [
  (.mk (some 4) none (.pure (.mv (.c (.b false)))))]) (.seq (.ops [
  (.mk (some 5) none (.pure (.mv (.t 1)))), 
  (.mk (some 6) none (.pure (.neg (.t 5)))), 
  (.mk (some 7) none (.pure (.mv (.t 0)))), 
  (.mk (some 8) none (.pure (.bin .leq (.t 6) (.t 7)))), 
  (.mk (some 9) none (.pure (.mv (.t 8)))), 
  (.mk (some 10) (some (9, true)) (.pure (.mv (.t 0)))), 
  (.mk (some 11) (some (9, true)) (.pure (.mv (.t 1)))), 
  (.mk (some 12) (some (9, true)) (.pure (.bin .leq (.t 10) (.t 11)))), 
  (.mk (some 13) none (.pure (.pick (.t 9) (.t 12) (.c (.b false))))), 
  (.mk (some 4) none (.pure (.mv (.t 13))))]) .ret)))
def fn51 : AFn := (AFn.mk 21 [(.t 4)] (.seq (.ops [
  (.mk (some 4) none (.pure (.mv (.c (.i .i64 0)))))]) (.seq (.ops [
  (.mk (some 9) none (.pure (.mv (.t 0)))), 
  (.mk (some 10) none (.pure (.mv (.t 1)))), 
  (.mk (some 11) none (.call 16 [(.t 9), (.t 10)])), 
  (.mk (some 8) none (.pure (.mv (.t 11)))), 
  (.mk (some 12) none (.pure (.ext 0 (.t 8)))), 
  (.mk (some 13) none (.pure (.ext 1 (.t 8)))), 
  (.mk (some 14) none (.pure (.ext 2 (.t 8)))), 
  (.mk (some 5) none (.pure (.mv (.t 12)))), 
  (.mk (some 6) none (.pure (.mv (.t 13)))), 
  (.mk (some 7) none (.pure (.mv (.t 14))))]) (.seq (.ops [
  (.mk (some 15) none (.pure (.mv (.t 7))))]) (.block 0 (.seq (.ops [
  (.mk (some 18) none (.pure (.bin .eql (.t 15) (.c (.i .i64 0))))), 
  (.mk (some 17) none (.pure (.mv (.t 18))))]) (.cond (.t 17) (.seq (.ops [
  (.mk (some 4) none (.pure (.mv (.c (.i .i64 5)))))]) .ret) (.seq (.ops [
  (.mk (some 20) none (.pure (.bin .eql (.t 15) (.c (.i .i64 10))))), 
  (.mk (some 19) none (.pure (.mv (.t 20))))]) (.cond (.t 19) (.seq (.ops [
  (.mk (some 4) none (.pure (.mv (.c (.i .i64 0)))))]) .ret) (.seq (.ops [
  (.mk (some 16) none (.pure (.mv (.t 7)))), 
  (.mk (some 4) none (.pure (.mv (.t 16))))]) .ret))))))))))
def fn52 : AFn := (AFn.mk 32 [(.t 4)] (.seq (.ops [
  (.mk (some 4) none (.pure (.mv (.c (.b false)))))]) (.seq (.ops [
  (.mk (some 5) none (.pure (.mv (.c (.i .i64 0)))))]) (.seq (.seq (.ops [
  (.mk (some 8) none (.pure (.mv (.t 1)))), 
  (.mk (some 9) none (.pure (.len false (.t 8)))), 
  (.mk (some 10) none (.pure (.mv (.c (.i .i64 0)))))]) (.block 0 (.loop (.seq (.ops [
  (.mk (some 11) none (.pure (.bin .lss (.t 10) (.t 9))))]) (.seq (.cond (.t 11) .skip (.exit 0)) (.seq (.block 1 (.seq (.ops [
  (.mk (some 12) none (.pure (.ixS 1 (.t 8) (.t 10)))), 
  (.mk (some 13) none (.ld true 1 (.t 12))), 
  (.mk (some 7) none (.pure (.mv (.t 13))))]) (.seq (.seq (.ops [
  (.mk (some 14) none (.pure (.mv (.t 0)))), 
  (.mk (some 15) none (.pure (.mv (.t 7)))), 
  (.mk (some 16) none (.call 91 [(.t 14), (.t 15)])), 
  (.mk (some 17) none (.pure (.not (.t 16)))), 
  (.mk (some 18) none (.pure (.mv (.t 17)))), 
  (.mk (some 19) (some (18, false)) (.pure (.mv (.t 5)))), 
  (.mk (some 20) (some (18, false)) (.pure (.mv (.t 7)))), 
  (.mk (some 21) (some (18, false)) (.call 60 [(.t 19), (.t 20)])), 
  (.mk (some 22) none (.pure (.pick (.t 18) (.c (.b true)) (.t 21))))]) (.cond (.t 22) (.seq (.ops [
  (.mk (some 4) none (.pure (.mv (.c (.b false)))))]) .ret) .skip)) (.ops [
  (.mk (some 23) none (.pure (.mv (.t 5)))), 
  (.mk (some 24) none (.pure (.mv (.t 7)))), 
  (.mk (some 25) none (.pure (.bin .shl (.c (.i .i64 1)) (.t 24)))), 
  (.mk (some 26) none (.pure (.bin .or (.t 23) (.t 25)))), 
  (.mk (some 5) none (.pure (.mv (.t 26))))])))) (.ops [
  (.mk (some 27) none (.pure (.bin .add (.t 10) (.c (.i .i64 1))))), 
  (.mk (some 10) none (.pure (.mv (.t 27))))]))))))) (.seq (.ops [
  (.mk (some 28) none (.pure (.mv (.t 1)))), 
  (.mk (some 29) none (.pure (.len false (.t 28)))), 
  (.mk (some 30) none (.pure (.mv (.t 0)))), 
  (.mk (some 31) none (.pure (.bin .eql (.t 29) (.t 30)))), 
  (.mk (some 4) none (.pure (.mv (.t 31))))]) .ret)))))
def fn53 : AFn := (AFn.mk 38 [(.t 4)] (.seq (.ops [
  (.mk (some 4) none (.pure (.mv (.c .nsl))))]) (.seq (.ops [
  (.mk (some 10) none (.pure (.mv (.t 1)))), 
  (.mk (some 11) none (.pure (.len false (.t 10)))), 
  (.mk (some 12) none (.mk 3 1 8 [(.i .i64 0)] (.t 11) (.t 11))), 
  (.mk (some 5) none (.pure (.mv (.t 12))))]) (.seq (.ops [
  (.mk (some 6) none (.pure (.mv (.c (.i .i64 0)))))]) (.seq (.seq (.ops [
  (.mk (some 13) none (.pure (.mv (.t 1)))), 
  (.mk (some 14) none (.pure (.len false (.t 13)))), 
  (.mk (some 15) none (.pure (.mv (.c (.i .i64 0)))))]) (.block 0 (.loop (.seq (.ops [
  (.mk (some 16) none (.pure (.bin .lss (.t 15) (.t 14))))]) (.seq (.cond (.t 16) .skip (.exit 0)) (.seq (.block 1 (.seq (.ops [
  (.mk (some 17) none (.pure (.ixS 1 (.t 13) (.t 15)))), 
  (.mk (some 18) none (.ld true 1 (.t 17))), 
  (.mk (some 8) none (.pure (.mv (.t 18))))]) (.seq (.ops [
  (.mk (some 19) none (.pure (.mv (.t 0)))), 
  (.mk (some 20) none (.pure (.mv (.t 6)))), 
  (.mk (some 21) none (.pure (.ixS 1 (.t 19) (.t 20)))), 
  (.mk (some 22) none (.ld true 1 (.t 21))), 
  (.mk (some 9) none (.pure (.mv (.t 22))))]) (.seq (.ops [
  (.mk (some 23) none (.pure (.mv (.t 6)))), 
  (.mk (some 24) none (.pure (.mv (.t 8)))), 
  (.mk (some 25) none (.pure (.bin .shl (.c (.i .i64 1)) (.t 24)))), 
  (.mk (some 26) none (.pure (.bin .or (.t 23) (.t 25)))), 
  (.mk (some 6) none (.pure (.mv (.t 26))))]) (.ops [
  (.mk (some 27) none (.pure (.mv (.t 5)))), 
  (.mk (some 28) none (.pure (.mv (.t 8)))), 
  (.mk (some 29) none (.pure (.mv (.t 0)))), 
  (.mk (some 30) none (.pure (.mv (.t 6)))), 
  (.mk (some 31) none (.pure (.ixS 1 (.t 29) (.t 30)))), 
  (.mk (some 32) none (.ld true 1 (.t 31))), 
  (.mk (some 33) none (.pure (.mv (.t 9)))), 
  (.mk (some 34) none (.pure (.bin .sub (.t 32) (.t 33)))), 
  (.mk (some 35) none (.pure (.ixS 1 (.t 27) (.t 28)))), 
  (.mk none none (.st 1 (.t 35) (.t 34)))]))))) (.ops [
  (.mk (some 36) none (.pure (.bin .add (.t 15) (.c (.i .i64 1))))), 
  (.mk (some 15) none (.pure (.mv (.t 36))))]))))))) (.seq (.ops [
  (.mk (some 37) none (.pure (.mv (.t 5)))), 
  (.mk (some 4) none (.pure (.mv (.t 37))))]) .ret))))))
def fn60 : AFn := (AFn.mk 10 [(.t 4)] (.seq (.ops [
  (.mk (some 4) none (.pure (.mv (.c (.b false)))))]) (.seq (.ops [
  (.mk (some 5) none (.pure (.mv (.t 0)))), 
  (.mk (some 6) none (.pure (.mv (.t 1)))), 
  (.mk (some 7) none (.pure (.bin .shr (.t 5) (.t 6)))), 
  (.mk (some 8) none (.pure (.bin .and (.t 7) (.c (.i .i64 1))))), 
  (.mk (some 9) none (.pure (.bin .eql (.t 8) (.c (.i .i64 1))))), 
  (.mk (some 4) none (.pure (.mv (.t 9))))]) .ret)))
def fn65 : AFn := (AFn.mk 13 [(.t 4)] (.seq (.ops [
  (.mk (some 4) none (.pure (.mv (.c (.b false)))))]) (.seq (.ops [
  (.mk (some 5) none (.pure (.mv (.t 1)))), 
  (.mk (some 6) none (.pure (.len false (.t 5)))), 
  (.mk (some 7) none (.pure (.mv (.t 0)))), 
  (.mk (some 8) none (.pure (.bin .eql (.t 6) (.t 7)))), 
  (.mk (some 9) none (.pure (.mv (.t 8)))), 
  (.mk (some 10) (some (9, true)) (.pure (.mv (.t 1)))), 
  (.mk (some 11) (some (9, true)) (.call 87 [(.t 10), (.c (.i .i64 6000000))])), 
  (.mk (some 12) none (.pure (.pick (.t 9) (.t 11) (.c (.b false))))), 
  (.mk (some 4) none (.pure (.mv (.t 12))))]) .ret)))
def fn66 : AFn := (AFn.mk 6 [(.t 4)] (.seq (.ops [
  (.mk (some 2) none (.bx 22 1 (.t 0))), 
  (.mk (some 3) none (.bx 22 1 (.t 1))), 
  (.mk (some 4) none (.pure (.mv (.c .nfn))))]) (.seq (.ops [
  (.mk (some 5) none (.pure (.mkfn 95 [] [(.t 3), (.t 2)]))), 
  (.mk (some 4) none (.pure (.mv (.t 5))))]) .ret)))
def fn67 : AFn := (AFn.mk 23 [(.t 4)] (.seq (.ops [
  (.mk (some 4) none (.pure (.mv (.c (.i .i64 0)))))]) (.seq (.ops [
  (.mk (some 5) none (.pure (.mv (.c (.i .i64 0)))))]) (.seq (.seq (.ops [
  (.mk (some 8) none (.pure (.mv (.t 0)))), 
  (.mk (some 9) none (.pure (.len false (.t 8)))), 
  (.mk (some 10) none (.pure (.mv (.c (.i .i64 0)))))]) (.block 0 (.loop (.seq (.ops [
  (.mk (some 11) none (.pure (.bin .lss (.t 10) (.t 9))))]) (.seq (.cond (.t 11) .skip (.exit 0)) (.seq (.block 1 (.seq (.ops [
  (.mk (some 12) none (.pure (.mv (.t 10)))), 
  (.mk (some 13) none (.pure (.ixS 1 (.t 8) (.t 10)))), 
  (.mk (some 14) none (.ld true 1 (.t 13))), 
  (.mk (some 6) none (.pure (.mv (.t 12)))), 
  (.mk (some 7) none (.pure (.mv (.t 14))))]) (.seq (.ops [
  (.mk (some 15) none (.pure (.mv (.t 1)))), 
  (.mk (some 16) none (.pure (.mv (.t 6)))), 
  (.mk (some 17) none (.call 60 [(.t 15), (.t 16)]))]) (.cond (.t 17) (.ops [
  (.mk (some 18) none (.pure (.mv (.t 5)))), 
  (.mk (some 19) none (.pure (.mv (.t 7)))), 
  (.mk (some 20) none (.pure (.bin .add (.t 18) (.t 19)))), 
  (.mk (some 5) none (.pure (.mv (.t 20))))]) .skip)))) (.ops [
  (.mk (some 21) none (.pure (.bin .add (.t 10) (.c (.i .i64 1))))), 
  (.mk (some 10) none (.pure (.mv (.t 21))))]))))))) (.seq (.ops [
  (.mk (some 22) none (.pure (.mv (.t 5)))), 
  (.mk (some 4) none (.pure (.mv (.t 22))))]) .ret)))))
def fn70 : AFn := (AFn.mk 28 [(.t 4)] (.seq (.ops [
  (.mk (some 4) none (.pure (.mv (.c (.i .i64 0)))))]) (.seq (.ops [
  (.mk (some 8) none (.pure (.mv (.t 0)))), 
  (.mk (some 9) none (.pure (.mv (.t 1)))), 
  (.mk (some 10) none (.pure (.ixS 1 (.t 9) (.c (.i .i64 0))))), 
  (.mk (some 11) none (.ld true 1 (.t 10))), 
  (.mk (some 12) none (.pure (.ixS 1 (.t 8) (.t 11)))), 
  (.mk (some 13) none (.ld true 1 (.t 12))), 
  (.mk (some 5) none (.pure (.mv (.t 13))))]) (.seq (.seq (.ops [
  (.mk (some 14) none (.pure (.mv (.t 1)))), 
  (.mk (some 15) none (.pure (.len false (.t 14)))), 
  (.mk (some 16) none (.pure (.mv (.c (.i .i64 0)))))]) (.block 0 (.loop (.seq (.ops [
  (.mk (some 17) none (.pure (.bin .lss (.t 16) (.t 15))))]) (.seq (.cond (.t 17) .skip (.exit 0)) (.seq (.block 1 (.seq (.ops [
  (.mk (some 18) none (.pure (.ixS 1 (.t 14) (.t 16)))), 
  (.mk (some 19) none (.ld true 1 (.t 18))), 
  (.mk (some 7) none (.pure (.mv (.t 19))))]) (.ops [
  (.mk (some 20) none (.pure (.mv (.t 5)))), 
  (.mk (some 21) none (.pure (.mv (.t 0)))), 
  (.mk (some 22) none (.pure (.mv (.t 7)))), 
  (.mk (some 23) none (.pure (.ixS 1 (.t 21) (.t 22)))), 
  (.mk (some 24) none (.ld true 1 (.t 23))), 
  (.mk (some 25) none (.pure (.mx false (.t 20) (.t 24)))), 
  (.mk (some 5) none (.pure (.mv (.t 25))))]))) (.ops [
  (.mk (some 26) none (.pure (.bin .add (.t 16) (.c (.i .i64 1))))), 
  (.mk (some 16) none (.pure (.mv (.t 26))))]))))))) (.seq (.ops [
  (.mk (some 27) none (.pure (.mv (.t 5)))), 
  (.mk (some 4) none (.pure (.mv (.t 27))))]) .ret)))))
def fn71 : AFn := (AFn.mk 6 [(.t 4)] (.seq (.ops [
  (.mk (some 2) none (.bx 22 1 (.t 0))), 
  (.mk (some 3) none (.bx 3 1 (.t 1))), 
  (.mk (some 4) none (.pure (.mv (.c .nfn))))]) (.seq (.ops [
  (.mk (some 5) none (.pure (.mkfn 97 [] [(.t 2), (.t 3)]))), 
  (.mk (some 4) none (.pure (.mv (.t 5))))]) .ret)))
def fn73 : AFn := (AFn.mk 4 [(.t 2)] (.seq (.ops [
  (.mk (some 1) none (.bx 3 1 (.t 0))), 
  (.mk (some 2) none (.pure (.mv (.c .nfn))))]) (.seq (.ops [
  (.mk (some 3) none (.pure (.mkfn 98 [] [(.t 1)]))), 
  (.mk (some 2) none (.pure (.mv (.t 3))))]) .ret)))
def fn74 : AFn := (AFn.mk 4 [(.t 2)] (.seq (.ops [
  (.mk (some 1) none (.bx 3 1 (.t 0))), 
  (.mk (some 2) none (.pure (.mv (.c .nfn))))]) (.seq (.ops [
  (.mk (some 3) none (.pure (.mkfn 99 [] [(.t 1)]))), 
  (.mk (some 2) none (.pure (.mv (.t 3))))]) .ret)))
def fn75 : AFn := (AFn.mk 21 [(.t 2)] (.seq (.ops [
  (.mk (some 2) none (.pure (.mv (.c .nsl))))]) (.seq (.ops [
  (.mk (some 5) none (.pure (.mv (.t 0)))), 
  (.mk (some 6) none (.mk 3 1 8 [(.i .i64 0)] (.t 5) (.t 5))), 
  (.mk (some 3) none (.pure (.mv (.t 6))))]) (.seq (.seq (.ops [
  (.mk (some 7) none (.pure (.mv (.t 3)))), 
  (.mk (some 8) none (.pure (.len false (.t 7)))), 
  (.mk (some 9) none (.pure (.mv (.c (.i .i64 0)))))]) (.block 0 (.loop (.seq (.ops [
  (.mk (some 10) none (.pure (.bin .lss (.t 9) (.t 8))))]) (.seq (.cond (.t 10) .skip (.exit 0)) (.seq (.block 1 (.seq (.ops [
  (.mk (some 11) none (.pure (.mv (.t 9)))), 
  (.mk (some 4) none (.pure (.mv (.t 11))))]) (.ops [
  (.mk (some 12) none (.pure (.mv (.t 3)))), 
  (.mk (some 13) none (.pure (.mv (.t 4)))), 
  (.mk (some 14) none (.pure (.mv (.t 0)))), 
  (.mk (some 15) none (.pure (.bin .sub (.t 14) (.c (.i .i64 1))))), 
  (.mk (some 16) none (.pure (.mv (.t 4)))), 
  (.mk (some 17) none (.pure (.bin .sub (.t 15) (.t 16)))), 
  (.mk (some 18) none (.pure (.ixS 1 (.t 12) (.t 13)))), 
  (.mk none none (.st 1 (.t 18) (.t 17)))]))) (.ops [
  (.mk (some 19) none (.pure (.bin .add (.t 9) (.c (.i .i64 1))))), 
  (.mk (some 9) none (.pure (.mv (.t 19))))]))))))) (.seq (.ops [
  (.mk (some 20) none (.pure (.mv (.t 3)))), 
  (.mk (some 2) none (.pure (.mv (.t 20))))]) .ret)))))
def fn78 : AFn := (AFn.mk 24 [(.t 4)] (.seq (.ops [
  (.mk (some 4) none (.pure (.mv (.c (.b false)))))]) (.seq (.seq (.ops [
  (.mk (some 7) none (.pure (.mv (.t 1)))), 
  (.mk (some 8) none (.pure (.len false (.t 7)))), 
  (.mk (some 9) none (.pure (.mv (.c (.i .i64 0)))))]) (.block 0 (.loop (.seq (.ops [
  (.mk (some 10) none (.pure (.bin .lss (.t 9) (.t 8))))]) (.seq (.cond (.t 10) .skip (.exit 0)) (.seq (.block 1 (.seq (.ops [
  (.mk (some 11) none (.pure (.ixS 1 (.t 7) (.t 9)))), 
  (.mk (some 12) none (.ld true 1 (.t 11))), 
  (.mk (some 6) none (.pure (.mv (.t 12))))]) (.seq (.ops [
  (.mk (some 13) none (.pure (.mv (.t 6)))), 
  (.mk (some 14) none (.pure (.bin .lss (.t 13) (.c (.i .i64 0))))), 
  (.mk (some 15) none (.pure (.mv (.t 14)))), 
  (.mk (some 16) (some (15, false)) (.pure (.mv (.t 6)))), 
  (.mk (some 17) (some (15, false)) (.pure (.bin .gtr (.t 16) (.c (.i .i64 1000))))), 
  (.mk (some 18) none (.pure (.pick (.t 15) (.c (.b true)) (.t 17))))]) (.cond (.t 18) (.seq (.ops [
  (.mk (some 4) none (.pure (.mv (.c (.b false)))))]) .ret) .skip)))) (.ops [
  (.mk (some 19) none (.pure (.bin .add (.t 9) (.c (.i .i64 1))))), 
  (.mk (some 9) none (.pure (.mv (.t 19))))]))))))) (.seq (.ops [
  (.mk (some 20) none (.pure (.mv (.t 1)))), 
  (.mk (some 21) none (.pure (.len false (.t 20)))), 
  (.mk (some 22) none (.pure (.mv (.t 0)))), 
  (.mk (some 23) none (.pure (.bin .eql (.t 21) (.t 22)))), 
  (.mk (some 4) none (.pure (.mv (.t 23))))]) .ret))))
def fn79 : AFn := (AFn.mk 25 [(.t 2)] (.seq (.ops [
  (.mk (some 2) none (.pure (.mv (.c (.i .i64 0)))))]) (.seq (.seq (.ops [
  (.mk (some 5) none (.pure (.mv (.t 0)))), 
  (.mk (some 6) none (.pure (.len false (.t 5)))), 
  (.mk (some 7) none (.pure (.bin .lss (.t 6) (.c (.i .i64 1)))))]) (.cond (.t 7) (.ops [
  (.mk none none (.ld true 1 (.c (.b true))))]) .skip)) (.seq (.ops [
  (.mk (some 9) none (.pure (.mv (.t 0)))), 
  (.mk (some 10) none (.pure (.ixS 1 (.t 9) (.c (.i .i64 0))))), 
  (.mk (some 11) none (.ld true 1 (.t 10))), 
  (.mk (some 3) none (.pure (.mv (.t 11))))]) (.seq (.seq (.ops [
  (.mk (some 4) none (.pure (.mv (.c (.i .i64 1)))))]) (.block 0 (.loop (.seq (.seq (.ops [
  (.mk (some 12) none (.pure (.mv (.t 4)))), 
  (.mk (some 13) none (.pure (.mv (.t 0)))), 
  (.mk (some 14) none (.pure (.len false (.t 13)))), 
  (.mk (some 15) none (.pure (.bin .lss (.t 12) (.t 14))))]) (.cond (.t 15) .skip (.exit 0))) (.seq (.block 1 (.ops [
  (.mk (some 18) none (.pure (.mv (.t 3)))), 
  (.mk (some 19) none (.pure (.mv (.t 0)))), 
  (.mk (some 20) none (.pure (.mv (.t 4)))), 
  (.mk (some 21) none (.pure (.ixS 1 (.t 19) (.t 20)))), 
  (.mk (some 22) none (.ld true 1 (.t 21))), 
  (.mk (some 23) none (.pure (.mx true (.t 18) (.t 22)))), 
  (.mk (some 3) none (.pure (.mv (.t 23))))])) (.ops [
  (.mk (some 16) none (.pure (.mv (.t 4)))), 
  (.mk (some 17) none (.pure (.bin .add (.t 16) (.c (.i .i64 1))))), 
  (.mk (some 4) none (.pure (.mv (.t 17))))])))))) (.seq (.ops [
  (.mk (some 24) none (.pure (.mv (.t 3)))), 
  (.mk (some 2) none (.pure (.mv (.t 24))))]) .ret))))))
def fn80 : AFn := (AFn.mk 24 [(.t 4)] (.seq (.ops [
  (.mk (some 4) none (.pure (.mv (.c (.i .i64 0)))))]) (.seq (.ops [
  (.mk (some 5) none (.pure (.mv (.c (.i .i64 0)))))]) (.seq (.seq (.ops [
  (.mk (some 8) none (.pure (.mv (.t 0)))), 
  (.mk (some 9) none (.pure (.len false (.t 8)))), 
  (.mk (some 10) none (.pure (.mv (.c (.i .i64 0)))))]) (.block 0 (.loop (.seq (.ops [
  (.mk (some 11) none (.pure (.bin .lss (.t 10) (.t 9))))]) (.seq (.cond (.t 11) .skip (.exit 0)) (.seq (.block 1 (.seq (.ops [
  (.mk (some 12) none (.pure (.mv (.t 10)))), 
  (.mk (some 13) none (.pure (.ixS 1 (.t 8) (.t 10)))), 
  (.mk (some 14) none (.ld true 1 (.t 13))), 
  (.mk (some 6) none (.pure (.mv (.t 12)))), 
  (.mk (some 7) none (.pure (.mv (.t 14))))]) (.seq (.ops [
  (.mk (some 15) none (.pure (.mv (.t 7)))), 
  (.mk (some 16) none (.pure (.mv (.t 1)))), 
  (.mk (some 17) none (.pure (.bin .geq (.t 15) (.t 16))))]) (.cond (.t 17) (.ops [
  (.mk (some 18) none (.pure (.mv (.t 5)))), 
  (.mk (some 19) none (.pure (.mv (.t 6)))), 
  (.mk (some 20) none (.pure (.bin .shl (.c (.i .i64 1)) (.t 19)))), 
  (.mk (some 21) none (.pure (.bin .or (.t 18) (.t 20)))), 
  (.mk (some 5) none (.pure (.mv (.t 21))))]) .skip)))) (.ops [
  (.mk (some 22) none (.pure (.bin .add (.t 10) (.c (.i .i64 1))))), 
  (.mk (some 10) none (.pure (.mv (.t 22))))]))))))) (.seq (.ops [
  (.mk (some 23) none (.pure (.mv (.t 5)))), 
  (.mk (some 4) none (.pure (.mv (.t 23))))]) .ret)))))
def fn84 : AFn := (AFn.mk 9 [(.t 2)] (.seq (.ops [
  (.mk (some 2) none (.pure (.mv (.c (.b false)))))]) (.seq (.ops [
  (.mk (some 3) none (.pure (.mv (.t 0)))), 
  (.mk (some 4) none (.pure (.bin .leq (.c (.i .i64 1)) (.t 3)))), 
  (.mk (some 5) none (.pure (.mv (.t 4)))), 
  (.mk (some 6) (some (5, true)) (.pure (.mv (.t 0)))), 
  (.mk (some 7) (some (5, true)) (.pure (.bin .leq (.t 6) (.c (.i .i64 6))))), 
  (.mk (some 8) none (.pure (.pick (.t 5) (.t 7) (.c (.b false))))), 
  (.mk (some 2) none (.pure (.mv (.t 8))))]) .ret)))
def fn87 : AFn := (AFn.mk 18 [(.t 4)] (.seq (.ops [
  (.mk (some 4) none (.pure (.mv (.c (.b false)))))]) (.seq (.seq (.ops [
  (.mk (some 7) none (.pure (.mv (.t 0)))), 
  (.mk (some 8) none (.pure (.len false (.t 7)))), 
  (.mk (some 9) none (.pure (.mv (.c (.i .i64 0)))))]) (.block 0 (.loop (.seq (.ops [
  (.mk (some 10) none (.pure (.bin .lss (.t 9) (.t 8))))]) (.seq (.cond (.t 10) .skip (.exit 0)) (.seq (.block 1 (.seq (.ops [
  (.mk (some 11) none (.pure (.ixS 1 (.t 7) (.t 9)))), 
  (.mk (some 12) none (.ld true 1 (.t 11))), 
  (.mk (some 6) none (.pure (.mv (.t 12))))]) (.seq (.ops [
  (.mk (some 13) none (.pure (.mv (.t 6)))), 
  (.mk (some 14) none (.pure (.mv (.t 1)))), 
  (.mk (some 15) none (.call 50 [(.t 13), (.t 14)])), 
  (.mk (some 16) none (.pure (.not (.t 15))))]) (.cond (.t 16) (.seq (.ops [
  (.mk (some 4) none (.pure (.mv (.c (.b false)))))]) .ret) .skip)))) (.ops [
  (.mk (some 17) none (.pure (.bin .add (.t 9) (.c (.i .i64 1))))), 
  (.mk (some 9) none (.pure (.mv (.t 17))))]))))))) (.seq (.ops [
  (.mk (some 4) none (.pure (.mv (.c (.b true)))))]) .ret))))
def fn88 : AFn := (AFn.mk 18 [(.t 4)] (.seq (.ops [
  (.mk (some 4) none (.pure (.mv (.c (.b false)))))]) (.seq (.seq (.ops [
  (.mk (some 7) none (.pure (.mv (.t 1)))), 
  (.mk (some 8) none (.pure (.len false (.t 7)))), 
  (.mk (some 9) none (.pure (.mv (.c (.i .i64 0)))))]) (.block 0 (.loop (.seq (.ops [
  (.mk (some 10) none (.pure (.bin .lss (.t 9) (.t 8))))]) (.seq (.cond (.t 10) .skip (.exit 0)) (.seq (.block 1 (.seq (.ops [
  (.mk (some 11) none (.pure (.ixS 1 (.t 7) (.t 9)))), 
  (.mk (some 12) none (.ld true 1 (.t 11))), 
  (.mk (some 6) none (.pure (.mv (.t 12))))]) (.seq (.opsY [
  (.mk (some 13) none (.pure (.mv (.t 6)))), 
  (.mk (some 14) none (.pure (.mv (.t 0)))), 
  (.mk (some 15) none (.callv (.t 13) [(.t 14)])), 
  (.mk (some 16) none (.pure (.not (.t 15))))]) (.cond (.t 16) (.seq (.ops [
  (.mk (some 4) none (.pure (.mv (.c (.b false)))))]) .ret) .skip)))) (.ops [
  (.mk (some 17) none (.pure (.bin .add (.t 9) (.c (.i .i64 1))))), 
  (.mk (some 9) none (.pure (.mv (.t 17))))]))))))) (.seq (.ops [
  (.mk (some 4) none (.pure (.mv (.c (.b true)))))]) .ret))))
def fn89 : AFn := (AFn.mk 7 [(.t 3)] (.seq (.ops [
  (.mk (some 3) none (.pure (.mv (.c (.b false)))))]) (.seq (.ops [
  (.mk (some 4) none (.pure (.mv (.t 0)))), 
  (.mk (some 5) none (.ld true 1 (.t 1))), 
  (.mk (some 6) none (.pure (.bin .gtr (.t 4) (.t 5)))), 
  (.mk (some 3) none (.pure (.mv (.t 6))))]) .ret)))
def fn90 : AFn := (AFn.mk 28 [(.t 4)] (.seq (.ops [
  (.mk (some 4) none (.pure (.mv (.c (.b false)))))]) (.seq (.any [(
  (.mk (some 5) none (.ld true 1 (.t 1))), false), (
  (.mk (some 6) none (.ld true 1 (.t 2))), false), (
  (.mk (some 7) none (.pure (.ixS 1 (.t 5) (.t 6)))), false), (
  (.mk (some 8) none (.ld true 1 (.t 7))), false), (
  (.mk (some 9) none (.ld true 1 (.t 1))), false), (
  (.mk (some 10) none (.pure (.mv (.t 0)))), false), (
  (.mk (some 11) none (.pure (.ixS 1 (.t 9) (.t 10)))), false), (
  (.mk (some 12) none (.ld true 1 (.t 11))), false), (
  (.mk (some 13) none (.pure (.bin .add (.t 8) (.t 12)))), false), (
  (.mk (some 14) none (.ld true 1 (.t 1))), false), (
  (.mk (some 15) none (.ld true 1 (.t 2))), false), (
  (.mk (some 16) none (.pure (.mv (.t 0)))), false), (
  (.mk (some 17) none (.pure (.bin .or (.t 15) (.t 16)))), false), (
  (.mk (some 18) none (.pure (.ixS 1 (.t 14) (.t 17)))), false), (
  (.mk (some 19) none (.ld true 1 (.t 18))), false), (
  (.mk (some 20) none (.ld true 1 (.t 1))), false), (
  (.mk (some 21) none (.ld true 1 (.t 2))), false), (
  (.mk (some 22) none (.pure (.mv (.t 0)))), false), (
  (.mk (some 23) none (.pure (.bin .and (.t 21) (.t 22)))), false), (
  (.mk (some 24) none (.pure (.ixS 1 (.t 20) (.t 23)))), false), (
  (.mk (some 25) none (.ld true 1 (.t 24))), false), (
  (.mk (some 26) none (.pure (.bin .add (.t 19) (.t 25)))), false), (
  (.mk (some 27) none (.pure (.bin .lss (.t 13) (.t 26)))), false), (
  (.mk (some 4) none (.pure (.mv (.t 27)))), false)]) .ret)))
def fn91 : AFn := (AFn.mk 12 [(.t 4)] (.seq (.ops [
  (.mk (some 4) none (.pure (.mv (.c (.b false)))))]) (.seq (.ops [
  (.mk (some 5) none (.pure (.mv (.t 1)))), 
  (.mk (some 6) none (.pure (.bin .leq (.c (.i .i64 0)) (.t 5)))), 
  (.mk (some 7) none (.pure (.mv (.t 6)))), 
  (.mk (some 8) (some (7, true)) (.pure (.mv (.t 1)))), 
  (.mk (some 9) (some (7, true)) (.pure (.mv (.t 0)))), 
  (.mk (some 10) (some (7, true)) (.pure (.bin .lss (.t 8) (.t 9)))), 
  (.mk (some 11) none (.pure (.pick (.t 7) (.t 10) (.c (.b false))))), 
  (.mk (some 4) none (.pure (.mv (.t 11))))]) .ret)))
def fn95 : AFn := (AFn.mk 13 [(.t 4)] (.seq (.ops [
  (.mk (some 4) none (.pure (.mv (.c (.b false)))))]) (.seq (.flt [(
  (.mk (some 5) none (.ld true 1 (.t 1))), false), (
  (.mk (some 6) none (.pure (.mv (.t 0)))), false), (
  (.mk (some 7) none (.call 67 [(.t 5), (.t 6)])), false), (
  (.mk (some 8) none (.ld true 1 (.t 2))), true), (
  (.mk (some 9) none (.pure (.mv (.t 0)))), false), (
  (.mk (some 10) none (.pure (.ixS 1 (.t 8) (.t 9)))), false), (
  (.mk (some 11) none (.ld true 1 (.t 10))), true), (
  (.mk (some 12) none (.pure (.bin .gtr (.t 7) (.t 11)))), false), (
  (.mk (some 4) none (.pure (.mv (.t 12)))), false)]) .ret)))
def fn97 : AFn := (AFn.mk 11 [(.t 4)] (.seq (.ops [
  (.mk (some 4) none (.pure (.mv (.c (.b false)))))]) (.seq (.any [(
  (.mk (some 5) none (.ld true 1 (.t 1))), false), (
  (.mk (some 6) none (.pure (.mv (.t 0)))), false), (
  (.mk (some 7) none (.pure (.ixS 1 (.t 5) (.t 6)))), false), (
  (.mk (some 8) none (.ld true 1 (.t 7))), false), (
  (.mk (some 9) none (.ld true 1 (.t 2))), false), (
  (.mk (some 10) none (.pure (.bin .eql (.t 8) (.t 9)))), false), (
  (.mk (some 4) none (.pure (.mv (.t 10)))), false)]) .ret)))
def fn98 : AFn := (AFn.mk 8 [(.t 3)] (.seq (.ops [
  (.mk (some 3) none (.pure (.mv (.c (.b false)))))]) (.seq (.ops [
  (.mk (some 4) none (.pure (.mv (.t 0)))), 
  (.mk (some 5) none (.ld true 1 (.t 1))), 
  (.mk (some 6) none (.pure (.bin .andNot (.t 4) (.t 5)))), 
  (.mk (some 7) none (.pure (.bin .eql (.t 6) (.c (.i .i64 0))))), 
  (.mk (some 3) none (.pure (.mv (.t 7))))]) .ret)))
def fn99 : AFn := (AFn.mk 8 [(.t 3)] (.seq (.ops [
  (.mk (some 3) none (.pure (.mv (.c (.b false)))))]) (.seq (.ops [
  (.mk (some 4) none (.ld true 1 (.t 1))), 
  (.mk (some 5) none (.pure (.mv (.t 0)))), 
  (.mk (some 6) none (.pure (.bin .andNot (.t 4) (.t 5)))), 
  (.mk (some 7) none (.pure (.bin .eql (.t 6) (.c (.i .i64 0))))), 
  (.mk (some 3) none (.pure (.mv (.t 7))))]) .ret)))
def F (f : Nat) : Option AFn := cond (Nat.blt f 53) (cond (Nat.blt f 33) (cond (Nat.blt f 20) (cond (Nat.blt f 15) (cond (Nat.blt f 14) (cond (Nat.beq f 10) (some fn10) none) (cond (Nat.beq f 14) (some fn14) none)) (cond (Nat.blt f 16) (cond (Nat.beq f 15) (some fn15) none) (cond (Nat.blt f 17) (cond (Nat.beq f 16) (some fn16) none) (cond (Nat.beq f 17) (some fn17) none)))) (cond (Nat.blt f 27) (cond (Nat.blt f 21) (cond (Nat.beq f 20) (some fn20) none) (cond (Nat.blt f 25) (cond (Nat.beq f 21) (some fn21) none) (cond (Nat.beq f 25) (some fn25) none))) (cond (Nat.blt f 29) (cond (Nat.beq f 27) (some fn27) none) (cond (Nat.blt f 31) (cond (Nat.beq f 29) (some fn29) none) (cond (Nat.beq f 31) (some fn31) none))))) (cond (Nat.blt f 47) (cond (Nat.blt f 44) (cond (Nat.blt f 39) (cond (Nat.beq f 33) (some fn33) none) (cond (Nat.blt f 42) (cond (Nat.beq f 39) (some fn39) none) (cond (Nat.beq f 42) (some fn42) none))) (cond (Nat.blt f 45) (cond (Nat.beq f 44) (some fn44) none) (cond (Nat.blt f 46) (cond (Nat.beq f 45) (some fn45) none) (cond (Nat.beq f 46) (some fn46) none)))) (cond (Nat.blt f 50) (cond (Nat.blt f 48) (cond (Nat.beq f 47) (some fn47) none) (cond (Nat.blt f 49) (cond (Nat.beq f 48) (some fn48) none) (cond (Nat.beq f 49) (some fn49) none))) (cond (Nat.blt f 51) (cond (Nat.beq f 50) (some fn50) none) (cond (Nat.blt f 52) (cond (Nat.beq f 51) (some fn51) none) (cond (Nat.beq f 52) (some fn52) none)))))) (cond (Nat.blt f 79) (cond (Nat.blt f 70) (cond (Nat.blt f 65) (cond (Nat.blt f 60) (cond (Nat.beq f 53) (some fn53) none) (cond (Nat.beq f 60) (some fn60) none)) (cond (Nat.blt f 66) (cond (Nat.beq f 65) (some fn65) none) (cond (Nat.blt f 67) (cond (Nat.beq f 66) (some fn66) none) (cond (Nat.beq f 67) (some fn67) none)))) (cond (Nat.blt f 74) (cond (Nat.blt f 71) (cond (Nat.beq f 70) (some fn70) none) (cond (Nat.blt f 73) (cond (Nat.beq f 71) (some fn71) none) (cond (Nat.beq f 73) (some fn73) none))) (cond (Nat.blt f 75) (cond (Nat.beq f 74) (some fn74) none) (cond (Nat.blt f 78) (cond (Nat.beq f 75) (some fn75) none) (cond (Nat.beq f 78) (some fn78) none))))) (cond (Nat.blt f 90) (cond (Nat.blt f 87) (cond (Nat.blt f 80) (cond (Nat.beq f 79) (some fn79) none) (cond (Nat.blt f 84) (cond (Nat.beq f 80) (some fn80) none) (cond (Nat.beq f 84) (some fn84) none))) (cond (Nat.blt f 88) (cond (Nat.beq f 87) (some fn87) none) (cond (Nat.blt f 89) (cond (Nat.beq f 88) (some fn88) none) (cond (Nat.beq f 89) (some fn89) none)))) (cond (Nat.blt f 97) (cond (Nat.blt f 91) (cond (Nat.beq f 90) (some fn90) none) (cond (Nat.blt f 95) (cond (Nat.beq f 91) (some fn91) none) (cond (Nat.beq f 95) (some fn95) none))) (cond (Nat.blt f 98) (cond (Nat.beq f 97) (some fn97) none) (cond (Nat.blt f 99) (cond (Nat.beq f 98) (some fn98) none) (cond (Nat.beq f 99) (some fn99) none))))))
end Go.Proofs.Ythdglempcfknhaa.T
