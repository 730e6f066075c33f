/- The functions that the law reaches, as the small machine takes them. -/
import Derived.Test.YtageakoepjkkbaaVmA
import Derived.KernelRfl
open Go.Vm
namespace Go.Proofs.Ytageakoepjkkbaa.T
open Go
def fn4 : AFn := (AFn.mk 85 [(.t 6)] (.seq (.ops [
  (.mk (some 6) none (.pure (.mv (.c (.b false)))))]) (.seq (.seq (.ops [
  (.mk (some 17) none (.pure (.mv (.t 1)))), 
  (.mk (some 18) none (.pure (.mv (.t 2)))), 
  (.mk (some 19) none (.call 15 [(.t 17), (.t 18)])), 
  (.mk (some 20) none (.pure (.not (.t 19))))]) (.cond (.t 20) (.seq (.ops [
  (.mk (some 21) none (.call 16 [])), 
  (.mk (some 6) none (.pure (.mv (.t 21))))]) .ret) .skip)) (.seq (.ops [
  (.mk (some 23) none (.pure (.mv (.t 0)))), 
  (.mk (some 24) none (.pure (.mv (.t 1)))), 
  (.mk (some 25) none (.pure (.mv (.t 2)))), 
  (.mk (some 26) none (.call 23 [(.t 23), (.t 24), (.t 25)])), 
  (.mk (some 22) none (.pure (.mv (.t 26)))), 
  (.mk (some 27) none (.pure (.ext 0 (.t 22)))), 
  (.mk (some 28) none (.pure (.ext 1 (.t 22)))), 
  (.mk (some 29) none (.pure (.ext 2 (.t 22)))), 
  (.mk (some 7) none (.pure (.mv (.t 27)))), 
  (.mk (some 8) none (.pure (.mv (.t 28)))), 
  (.mk (some 9) none (.pure (.mv (.t 29))))]) (.seq (.ops [
  (.mk (some 31) none (.pure (.mv (.t 0)))), 
  (.mk (some 32) none (.pure (.mv (.t 1)))), 
  (.mk (some 33) none (.pure (.mv (.t 2)))), 
  (.mk (some 34) none (.call 24 [(.t 31), (.t 32), (.t 33)])), 
  (.mk (some 30) none (.pure (.mv (.t 34)))), 
  (.mk (some 35) none (.pure (.ext 0 (.t 30)))), 
  (.mk (some 36) none (.pure (.ext 1 (.t 30)))), 
  (.mk (some 37) none (.pure (.ext 2 (.t 30)))), 
  (.mk (some 10) none (.pure (.mv (.t 35)))), 
  (.mk (some 11) none (.pure (.mv (.t 36)))), 
  (.mk (some 12) none (.pure (.mv (.t 37))))]) (.seq (.seq (.ops [
  (.mk (some 38) none (.pure (.mv (.t 7)))), 
  (.mk (some 39) none (.pure (.mv (.t 10)))), 
  (.mk (some 40) none (.call 20 [(.t 38), (.t 39)])), 
  (.mk (some 41) none (.pure (.not (.t 40)))), 
  (.mk (some 42) none (.pure (.mv (.t 41)))), 
  (.mk (some 43) (some (42, false)) (.pure (.mv (.t 8)))), 
  (.mk (some 44) (some (42, false)) (.pure (.mv (.t 11)))), 
  (.mk (some 45) (some (42, false)) (.call 20 [(.t 43), (.t 44)])), 
  (.mk (some 46) (some (42, false)) (.pure (.not (.t 45)))), 
  (.mk (some 47) none (.pure (.pick (.t 42) (.c (.b true)) (.t 46)))), 
  (.mk (some 48) none (.pure (.mv (.t 47)))), 
  (.mk (some 49) (some (48, false)) (.pure (.mv (.t 9)))), 
  (.mk (some 50) (some (48, false)) (.pure (.mv (.t 12)))), 
  (.mk (some 51) (some (48, false)) (.pure (.bin .neq (.t 49) (.t 50)))), 
  (.mk (some 52) none (.pure (.pick (.t 48) (.c (.b true)) (.t 51))))]) (.cond (.t 52) (.seq (.ops [
  (.mk (some 6) none (.pure (.mv (.c (.b false)))))]) .ret) .skip)) (.seq (.ops [
  (.mk (some 54) none (.pure (.mv (.t 0)))), 
  (.mk (some 55) none (.pure (.mv (.t 1)))), 
  (.mk (some 56) none (.pure (.mv (.t 2)))), 
  (.mk (some 57) none (.call 25 [(.t 54), (.t 55), (.t 56)])), 
  (.mk (some 53) none (.pure (.mv (.t 57)))), 
  (.mk (some 58) none (.pure (.ext 0 (.t 53)))), 
  (.mk (some 59) none (.pure (.ext 1 (.t 53)))), 
  (.mk (some 60) none (.pure (.ext 2 (.t 53)))), 
  (.mk (some 13) none (.pure (.mv (.t 58)))), 
  (.mk (some 14) none (.pure (.mv (.t 59)))), 
  (.mk (some 9) none (.pure (.mv (.t 60))))]) (.seq (.ops [
  (.mk (some 62) none (.pure (.mv (.t 0)))), 
  (.mk (some 63) none (.pure (.mv (.t 1)))), 
  (.mk (some 64) none (.pure (.mv (.t 2)))), 
  (.mk (some 65) none (.call 26 [(.t 62), (.t 63), (.t 64)])), 
  (.mk (some 61) none (.pure (.mv (.t 65)))), 
  (.mk (some 66) none (.pure (.ext 0 (.t 61)))), 
  (.mk (some 67) none (.pure (.ext 1 (.t 61)))), 
  (.mk (some 68) none (.pure (.ext 2 (.t 61)))), 
  (.mk (some 15) none (.pure (.mv (.t 66)))), 
  (.mk (some 16) none (.pure (.mv (.t 67)))), 
  (.mk (some 12) none (.pure (.mv (.t 68))))]) (.seq (.ops [
  (.mk (some 69) none (.pure (.mv (.t 13)))), 
  (.mk (some 70) none (.pure (.mv (.t 15)))), 
  (.mk (some 71) none (.pure (.bin .eql (.t 69) (.t 70)))), 
  (.mk (some 72) none (.pure (.mv (.t 71)))), 
  (.mk (some 73) (some (72, true)) (.pure (.mv (.t 14)))), 
  (.mk (some 74) (some (72, true)) (.pure (.mv (.t 16)))), 
  (.mk (some 75) (some (72, true)) (.pure (.bin .eql (.t 73) (.t 74)))), 
  (.mk (some 76) none (.pure (.pick (.t 72) (.t 75) (.c (.b false))))), 
  (.mk (some 77) none (.pure (.mv (.t 76)))), 
  (.mk (some 78) (some (77, true)) (.pure (.mv (.t 9)))), 
  (.mk (some 79) (some (77, true)) (.pure (.mv (.t 12)))), 
  (.mk (some 80) (some (77, true)) (.pure (.bin .eql (.t 78) (.t 79)))), 
  (.mk (some 81) none (.pure (.pick (.t 77) (.t 80) (.c (.b false))))), 
  (.mk (some 82) none (.pure (.mv (.t 81)))), 
  (.mk (some 83) (some (82, true)) (.call 16 [])), 
  (.mk (some 84) none (.pure (.pick (.t 82) (.t 83) (.c (.b false))))), 
  (.mk (some 6) none (.pure (.mv (.t 84))))]) .ret)))))))))
def fn15 : AFn := (AFn.mk 25 [(.t 4)] (.seq (.ops [
  (.mk (some 4) none (.pure (.mv (.c (.b false)))))]) (.seq (.seq (.ops [
  (.mk (some 5) none (.pure (.mv (.c (.i .i64 0)))))]) (.block 0 (.loop (.seq (.seq (.ops [
  (.mk (some 6) none (.pure (.mv (.t 5)))), 
  (.mk (some 7) none (.pure (.mv (.t 0)))), 
  (.mk (some 8) none (.pure (.len false (.t 7)))), 
  (.mk (some 9) none (.pure (.bin .lss (.t 6) (.t 8))))]) (.cond (.t 9) .skip (.exit 0))) (.seq (.block 1 (.seq (.ops [
  (.mk (some 12) none (.pure (.mv (.t 5)))), 
  (.mk (some 13) none (.pure (.bin .geq (.t 12) (.c (.i .i64 250))))), 
  (.mk (some 14) none (.pure (.mv (.t 13)))), 
  (.mk (some 15) (some (14, false)) (.pure (.mv (.t 0)))), 
  (.mk (some 16) (some (14, false)) (.pure (.mv (.t 5)))), 
  (.mk (some 17) (some (14, false)) (.pure (.ixS 1 (.t 15) (.t 16)))), 
  (.mk (some 18) (some (14, false)) (.ld true 1 (.t 17))), 
  (.mk (some 19) (some (14, false)) (.pure (.len false (.t 18)))), 
  (.mk (some 20) (some (14, false)) (.pure (.bin .gtr (.t 19) (.c (.i .i64 40))))), 
  (.mk (some 21) none (.pure (.pick (.t 14) (.c (.b true)) (.t 20))))]) (.cond (.t 21) (.seq (.ops [
  (.mk (some 4) none (.pure (.mv (.c (.b false)))))]) .ret) .skip))) (.ops [
  (.mk (some 10) none (.pure (.mv (.t 5)))), 
  (.mk (some 11) none (.pure (.bin .add (.t 10) (.c (.i .i64 1))))), 
  (.mk (some 5) none (.pure (.mv (.t 11))))])))))) (.seq (.ops [
  (.mk (some 22) none (.pure (.mv (.t 1)))), 
  (.mk (some 23) none (.pure (.len false (.t 22)))), 
  (.mk (some 24) none (.pure (.bin .leq (.t 23) (.c (.i .i64 1100))))), 
  (.mk (some 4) none (.pure (.mv (.t 24))))]) .ret))))
def fn16 : AFn := (AFn.mk 73 [(.t 0)] (.seq (.ops [
  (.mk (some 0) none (.pure (.mv (.c (.b false)))))]) (.seq (.ops [
  (.mk (some 11) none (.bsl 3 1 [(.i .i64 0)] 2 [((0, 1), (.c (.i .i64 0))), ((1, 1), (.c (.i .i64 1)))])), 
  (.mk (some 12) none (.bsl 3 1 [(.i .i64 0)] 2 [((0, 1), (.c (.i .i64 0))), ((1, 1), (.c (.i .i64 1)))])), 
  (.mk (some 13) none (.bsl 23 1 [.nsl] 2 [((0, 1), (.t 11)), ((1, 1), (.t 12))])), 
  (.mk (some 14) none (.bsl 3 1 [(.i .i64 0)] 2 [((0, 1), (.c (.i .i64 1))), ((1, 1), (.c (.i .i64 1)))])), 
  (.mk (some 15) none (.call 23 [(.c (.i .i64 2)), (.t 13), (.t 14)])), 
  (.mk (some 10) none (.pure (.mv (.t 15)))), 
  (.mk (some 16) none (.pure (.ext 0 (.t 10)))), 
  (.mk (some 17) none (.pure (.ext 1 (.t 10)))), 
  (.mk (some 18) none (.pure (.ext 2 (.t 10)))), 
  (.mk (some 1) none (.pure (.mv (.t 16)))), 
  (.mk (some 2) none (.pure (.mv (.t 17)))), 
  (.mk (some 3) none (.pure (.mv (.t 18))))]) (.seq (.ops [
  (.mk (some 20) none (.bsl 3 1 [(.i .i64 0)] 2 [((0, 1), (.c (.i .i64 29))), ((1, 1), (.c (.i .i64 30)))])), 
  (.mk (some 21) none (.call 29 [(.c (.i .i64 1)), (.t 20)])), 
  (.mk (some 19) none (.pure (.mv (.t 21)))), 
  (.mk (some 22) none (.pure (.ext 0 (.t 19)))), 
  (.mk (some 23) none (.pure (.ext 1 (.t 19)))), 
  (.mk (some 4) none (.pure (.mv (.t 22)))), 
  (.mk (some 5) none (.pure (.mv (.t 23))))]) (.seq (.ops [
  (.mk (some 25) none (.bsl 3 1 [(.i .i64 0)] 2 [((0, 1), (.c (.i .i64 0))), ((1, 1), (.c (.i .i64 60)))])), 
  (.mk (some 26) none (.call 31 [(.c (.i .i64 1)), (.t 25), (.c .nsl)])), 
  (.mk (some 24) none (.pure (.mv (.t 26)))), 
  (.mk (some 27) none (.pure (.ext 0 (.t 24)))), 
  (.mk (some 28) none (.pure (.ext 1 (.t 24)))), 
  (.mk (some 6) none (.al 42 [(.i .i64 0), (.i .i64 0)])), 
  (.mk none none (.st 2 (.t 6) (.t 27))), 
  (.mk (some 7) none (.pure (.mv (.t 28))))]) (.seq (.ops [
  (.mk (some 30) none (.bsl 3 1 [(.i .i64 0)] 2 [((0, 1), (.c (.i .i64 0))), ((1, 1), (.c (.i .i64 1)))])), 
  (.mk (some 31) none (.bsl 23 1 [.nsl] 1 [((0, 1), (.t 30))])), 
  (.mk (some 32) none (.call 35 [(.c (.i .i64 1)), (.c (.i .i64 2)), (.t 31)])), 
  (.mk (some 29) none (.pure (.mv (.t 32)))), 
  (.mk (some 33) none (.pure (.ext 0 (.t 29)))), 
  (.mk (some 34) none (.pure (.ext 1 (.t 29)))), 
  (.mk (some 8) none (.al 42 [(.i .i64 0), (.i .i64 0)])), 
  (.mk none none (.st 2 (.t 8) (.t 33))), 
  (.mk (some 9) none (.pure (.mv (.t 34))))]) (.seq (.ops [
  (.mk (some 35) none (.pure (.mv (.t 3)))), 
  (.mk (some 36) none (.pure (.bin .eql (.t 35) (.c (.i .i64 0))))), 
  (.mk (some 37) none (.pure (.mv (.t 36)))), 
  (.mk (some 38) (some (37, true)) (.pure (.mv (.t 1)))), 
  (.mk (some 39) (some (37, true)) (.bsl 3 1 [(.i .i64 0)] 2 [((0, 1), (.c (.i .i64 0))), ((1, 1), (.c (.i .i64 1)))])), 
  (.mk (some 40) (some (37, true)) (.call 20 [(.t 38), (.t 39)])), 
  (.mk (some 41) none (.pure (.pick (.t 37) (.t 40) (.c (.b false))))), 
  (.mk (some 42) none (.pure (.mv (.t 41)))), 
  (.mk (some 43) (some (42, true)) (.pure (.mv (.t 2)))), 
  (.mk (some 44) (some (42, true)) (.bsl 3 1 [(.i .i64 0)] 2 [((0, 1), (.c (.i .i64 2))), ((1, 1), (.c (.i .i64 0)))])), 
  (.mk (some 45) (some (42, true)) (.call 20 [(.t 43), (.t 44)])), 
  (.mk (some 46) none (.pure (.pick (.t 42) (.t 45) (.c (.b false))))), 
  (.mk (some 47) none (.pure (.mv (.t 46)))), 
  (.mk (some 48) (some (47, true)) (.pure (.mv (.t 5)))), 
  (.mk (some 49) (some (47, true)) (.pure (.bin .eql (.t 48) (.c (.i .i64 0))))), 
  (.mk (some 50) none (.pure (.pick (.t 47) (.t 49) (.c (.b false))))), 
  (.mk (some 51) none (.pure (.mv (.t 50)))), 
  (.mk (some 52) (some (51, true)) (.pure (.mv (.t 4)))), 
  (.mk (some 53) (some (51, true)) (.pure (.bin .eql (.t 52) (.c (.i .i64 0))))), 
  (.mk (some 54) none (.pure (.pick (.t 51) (.t 53) (.c (.b false))))), 
  (.mk (some 55) none (.pure (.mv (.t 54)))), 
  (.mk (some 56) (some (55, true)) (.pure (.mv (.t 7)))), 
  (.mk (some 57) (some (55, true)) (.pure (.bin .eql (.t 56) (.c (.i .i64 0))))), 
  (.mk (some 58) none (.pure (.pick (.t 55) (.t 57) (.c (.b false))))), 
  (.mk (some 59) none (.pure (.mv (.t 58)))), 
  (.mk (some 60) (some (59, true)) (.ld false 2 (.t 6))), 
  (.mk (some 61) (some (59, true)) (.pure (.build [(.i .i64 0), (.i .i64 0)] [((0, 1), (.c (.i .i64 0))), ((1, 1), (.c (.i .i64 1)))]))), 
  (.mk (some 62) (some (59, true)) (.pure (.seq false [0, 1] (.t 60) (.t 61)))), 
  (.mk (some 63) none (.pure (.pick (.t 59) (.t 62) (.c (.b false))))), 
  (.mk (some 64) none (.pure (.mv (.t 63)))), 
  (.mk (some 65) (some (64, true)) (.pure (.mv (.t 9)))), 
  (.mk (some 66) (some (64, true)) (.pure (.bin .eql (.t 65) (.c (.i .i64 0))))), 
  (.mk (some 67) none (.pure (.pick (.t 64) (.t 66) (.c (.b false))))), 
  (.mk (some 68) none (.pure (.mv (.t 67)))), 
  (.mk (some 69) (some (68, true)) (.ld false 2 (.t 8))), 
  (.mk (some 70) (some (68, true)) (.pure (.build [(.i .i64 0), (.i .i64 0)] [((0, 1), (.c (.i .i64 1))), ((1, 1), (.c (.i .i64 2)))]))), 
  (.mk (some 71) (some (68, true)) (.pure (.seq false [0, 1] (.t 69) (.t 70)))), 
  (.mk (some 72) none (.pure (.pick (.t 68) (.t 71) (.c (.b false))))), 
  (.mk (some 0) none (.pure (.mv (.t 72))))]) .ret)))))))
def fn20 : AFn := (AFn.mk 26 [(.t 4)] (.seq (.ops [
  (.mk (some 4) none (.pure (.mv (.c (.b false)))))]) (.seq (.seq (.ops [
  (.mk (some 6) none (.pure (.mv (.t 0)))), 
  (.mk (some 7) none (.pure (.len false (.t 6)))), 
  (.mk (some 8) none (.pure (.mv (.t 1)))), 
  (.mk (some 9) none (.pure (.len false (.t 8)))), 
  (.mk (some 10) none (.pure (.bin .neq (.t 7) (.t 9))))]) (.cond (.t 10) (.seq (.ops [
  (.mk (some 4) none (.pure (.mv (.c (.b false)))))]) .ret) .skip)) (.seq (.seq (.ops [
  (.mk (some 5) none (.pure (.mv (.c (.i .i64 0)))))]) (.block 0 (.loop (.seq (.seq (.ops [
  (.mk (some 11) none (.pure (.mv (.t 5)))), 
  (.mk (some 12) none (.pure (.mv (.t 0)))), 
  (.mk (some 13) none (.pure (.len false (.t 12)))), 
  (.mk (some 14) none (.pure (.bin .lss (.t 11) (.t 13))))]) (.cond (.t 14) .skip (.exit 0))) (.seq (.block 1 (.seq (.any [(
  (.mk (some 17) none (.pure (.mv (.t 0)))), false), (
  (.mk (some 18) none (.pure (.mv (.t 5)))), false), (
  (.mk (some 19) none (.pure (.ixS 1 (.t 17) (.t 18)))), false), (
  (.mk (some 20) none (.ld true 1 (.t 19))), false), (
  (.mk (some 21) none (.pure (.mv (.t 1)))), false), (
  (.mk (some 22) none (.pure (.mv (.t 5)))), false), (
  (.mk (some 23) none (.pure (.ixS 1 (.t 21) (.t 22)))), false), (
  (.mk (some 24) none (.ld true 1 (.t 23))), false), (
  (.mk (some 25) none (.pure (.bin .neq (.t 20) (.t 24)))), false)]) (.cond (.t 25) (.seq (.ops [
  (.mk (some 4) none (.pure (.mv (.c (.b false)))))]) .ret) .skip))) (.ops [
  (.mk (some 15) none (.pure (.mv (.t 5)))), 
  (.mk (some 16) none (.pure (.bin .add (.t 15) (.c (.i .i64 1))))), 
  (.mk (some 5) none (.pure (.mv (.t 16))))])))))) (.seq (.ops [
  (.mk (some 4) none (.pure (.mv (.c (.b true)))))]) .ret)))))
def fn23 : AFn := (AFn.mk 30 [(.t 6), (.t 7), (.t 8)] (.seq (.ops [
  (.mk (some 6) none (.pure (.mv (.c .nsl)))), 
  (.mk (some 7) none (.pure (.mv (.c .nsl)))), 
  (.mk (some 8) none (.pure (.mv (.c (.i .i64 0)))))]) (.seq (.seq (.ops [
  (.mk (some 12) none (.pure (.mv (.t 0)))), 
  (.mk (some 13) none (.pure (.mv (.t 1)))), 
  (.mk (some 14) none (.pure (.mv (.t 2)))), 
  (.mk (some 15) none (.call 49 [(.t 12), (.t 13), (.t 14)])), 
  (.mk (some 9) none (.pure (.mv (.t 15))))]) (.seq (.ops [
  (.mk (some 16) none (.pure (.mv (.t 9)))), 
  (.mk (some 17) none (.pure (.bin .neq (.t 16) (.c (.i .i64 0)))))]) (.cond (.t 17) (.seq (.ops [
  (.mk (some 18) none (.pure (.mv (.t 9)))), 
  (.mk (some 6) none (.pure (.mv (.c .nsl)))), 
  (.mk (some 7) none (.pure (.mv (.c .nsl)))), 
  (.mk (some 8) none (.pure (.mv (.t 18))))]) .ret) .skip))) (.seq (.ops [
  (.mk (some 19) none (.pure (.mv (.t 0)))), 
  (.mk (some 20) none (.mk 3 1 8 [(.i .i64 0)] (.t 19) (.t 19))), 
  (.mk (some 10) none (.pure (.mv (.t 20))))]) (.seq (.ops [
  (.mk (some 21) none (.pure (.mv (.t 10)))), 
  (.mk (some 22) none (.pure (.build [.nsl] [((0, 1), (.t 21))]))), 
  (.mk (some 23) none (.pure (.build [.nsl] [((0, 1), (.t 22))]))), 
  (.mk (some 24) none (.pure (.mki 76 (.t 23)))), 
  (.mk (some 25) none (.pure (.mv (.t 1)))), 
  (.mk (some 26) none (.pure (.mv (.t 2)))), 
  (.mk (some 27) none (.call 50 [(.t 24), (.t 25), (.t 26)])), 
  (.mk (some 11) none (.pure (.mv (.t 27))))]) (.seq (.ops [
  (.mk (some 28) none (.pure (.mv (.t 11)))), 
  (.mk (some 29) none (.pure (.mv (.t 10)))), 
  (.mk (some 6) none (.pure (.mv (.t 28)))), 
  (.mk (some 7) none (.pure (.mv (.t 29)))), 
  (.mk (some 8) none (.pure (.mv (.c (.i .i64 0)))))]) .ret))))))
def fn24 : AFn := (AFn.mk 72 [(.t 6), (.t 7), (.t 8)] (.seq (.ops [
  (.mk (some 6) none (.pure (.mv (.c .nsl)))), 
  (.mk (some 7) none (.pure (.mv (.c .nsl)))), 
  (.mk (some 8) none (.pure (.mv (.c (.i .i64 0)))))]) (.seq (.ops [
  (.mk (some 15) none (.pure (.mv (.t 0)))), 
  (.mk (some 16) none (.pure (.mv (.t 1)))), 
  (.mk (some 17) none (.pure (.mv (.t 2)))), 
  (.mk (some 18) none (.call 38 [(.t 15), (.t 16), (.t 17)])), 
  (.mk (some 9) none (.pure (.mv (.t 18))))]) (.seq (.seq (.ops [
  (.mk (some 19) none (.pure (.mv (.t 9)))), 
  (.mk (some 20) none (.pure (.bin .neq (.t 19) (.c (.i .i64 0)))))]) (.cond (.t 20) (.seq (.ops [
  (.mk (some 21) none (.pure (.mv (.t 9)))), 
  (.mk (some 6) none (.pure (.mv (.c .nsl)))), 
  (.mk (some 7) none (.pure (.mv (.c .nsl)))), 
  (.mk (some 8) none (.pure (.mv (.t 21))))]) .ret) .skip)) (.seq (.ops [
  (.mk (some 22) none (.pure (.mv (.t 0)))), 
  (.mk (some 23) none (.mk 3 1 8 [(.i .i64 0)] (.t 22) (.t 22))), 
  (.mk (some 10) none (.pure (.mv (.t 23))))]) (.seq (.ops [
  (.mk (some 11) none (.pure (.mv (.c .nsl))))]) (.seq (.seq (.ops [
  (.mk (some 12) none (.pure (.mv (.c (.i .i64 0)))))]) (.block 0 (.loop (.seq (.seq (.ops [
  (.mk (some 24) none (.pure (.mv (.t 12)))), 
  (.mk (some 25) none (.pure (.mv (.t 1)))), 
  (.mk (some 26) none (.pure (.len false (.t 25)))), 
  (.mk (some 27) none (.pure (.bin .lss (.t 24) (.t 26))))]) (.cond (.t 27) .skip (.exit 0))) (.seq (.block 1 (.seq (.ops [
  (.mk (some 13) none (.pure (.mv (.c (.i .i64 0)))))]) (.seq (.seq (.flt [(
  (.mk (some 30) none (.pure (.mv (.t 10)))), false), (
  (.mk (some 31) none (.pure (.mv (.t 1)))), false), (
  (.mk (some 32) none (.pure (.mv (.t 12)))), false), (
  (.mk (some 33) none (.pure (.ixS 1 (.t 31) (.t 32)))), false), (
  (.mk (some 34) none (.ld true 1 (.t 33))), false), (
  (.mk (some 35) none (.call 53 [(.t 30), (.t 34), (.c (.i .i64 1))])), false), (
  (.mk (some 36) none (.pure (.mv (.t 10)))), false), (
  (.mk (some 37) none (.pure (.mv (.t 1)))), false), (
  (.mk (some 38) none (.pure (.mv (.t 12)))), false), (
  (.mk (some 39) none (.pure (.ixS 1 (.t 37) (.t 38)))), false), (
  (.mk (some 40) none (.ld true 1 (.t 39))), true), (
  (.mk (some 41) none (.call 53 [(.t 36), (.t 40), (.c (.i .i64 0))])), true), (
  (.mk (some 42) none (.call 52 [(.t 35), (.t 41)])), true)]) (.cond (.t 42) (.ops [
  (.mk (some 13) none (.pure (.mv (.c (.i .i64 1)))))]) .skip)) (.seq (.ops [
  (.mk (some 43) none (.pure (.mv (.t 11)))), 
  (.mk (some 44) none (.pure (.mv (.t 13)))), 
  (.mk (some 45) none (.bsl 3 1 [(.i .i64 0)] 1 [((0, 1), (.t 44))])), 
  (.mk (some 46) none (.app 3 1 8 [(.i .i64 0)] (.t 43) (.t 45))), 
  (.mk (some 11) none (.pure (.mv (.t 46))))]) (.seq (.ops [
  (.mk (some 14) none (.pure (.mv (.c (.i .i64 0)))))]) (.block 2 (.loop (.seq (.seq (.ops [
  (.mk (some 47) none (.pure (.mv (.t 14)))), 
  (.mk (some 48) none (.pure (.mv (.t 0)))), 
  (.mk (some 49) none (.pure (.bin .lss (.t 47) (.t 48))))]) (.cond (.t 49) .skip (.exit 2))) (.seq (.block 3 (.seq (.any [(
  (.mk (some 52) none (.pure (.mv (.t 1)))), false), (
  (.mk (some 53) none (.pure (.mv (.t 12)))), false), (
  (.mk (some 54) none (.pure (.ixS 1 (.t 52) (.t 53)))), false), (
  (.mk (some 55) none (.ld true 1 (.t 54))), false), (
  (.mk (some 56) none (.pure (.mv (.t 14)))), false), (
  (.mk (some 57) none (.pure (.ixS 1 (.t 55) (.t 56)))), false), (
  (.mk (some 58) none (.ld true 1 (.t 57))), false), (
  (.mk (some 59) none (.pure (.mv (.t 2)))), false), (
  (.mk (some 60) none (.pure (.mv (.t 12)))), false), (
  (.mk (some 61) none (.pure (.ixS 1 (.t 59) (.t 60)))), false), (
  (.mk (some 62) none (.ld true 1 (.t 61))), false), (
  (.mk (some 63) none (.pure (.bin .neq (.t 58) (.t 62)))), false)]) (.cond (.t 63) (.ops [
  (.mk (some 64) none (.pure (.mv (.t 10)))), 
  (.mk (some 65) none (.pure (.mv (.t 14)))), 
  (.mk (some 66) none (.pure (.ixS 1 (.t 64) (.t 65)))), 
  (.mk (some 67) none (.ld true 1 (.t 66))), 
  (.mk (some 68) none (.pure (.bin .add (.t 67) (.c (.i .i64 1))))), 
  (.mk (some 69) none (.pure (.ixS 1 (.t 64) (.t 65)))), 
  (.mk none none (.st 1 (.t 69) (.t 68)))]) .skip))) (.ops [
  (.mk (some 50) none (.pure (.mv (.t 14)))), 
  (.mk (some 51) none (.pure (.bin .add (.t 50) (.c (.i .i64 1))))), 
  (.mk (some 14) none (.pure (.mv (.t 51))))])))))))))) (.ops [
  (.mk (some 28) none (.pure (.mv (.t 12)))), 
  (.mk (some 29) none (.pure (.bin .add (.t 28) (.c (.i .i64 1))))), 
  (.mk (some 12) none (.pure (.mv (.t 29))))])))))) (.seq (.ops [
  (.mk (some 70) none (.pure (.mv (.t 11)))), 
  (.mk (some 71) none (.pure (.mv (.t 10)))), 
  (.mk (some 6) none (.pure (.mv (.t 70)))), 
  (.mk (some 7) none (.pure (.mv (.t 71)))), 
  (.mk (some 8) none (.pure (.mv (.c (.i .i64 0)))))]) .ret))))))))
def fn25 : AFn := (AFn.mk 30 [(.t 6), (.t 7), (.t 8)] (.seq (.ops [
  (.mk (some 6) none (.pure (.mv (.c (.i .i64 0))))), 
  (.mk (some 7) none (.pure (.mv (.c (.i .i64 0))))), 
  (.mk (some 8) none (.pure (.mv (.c (.i .i64 0)))))]) (.seq (.ops [
  (.mk (some 14) none (.pure (.mv (.t 0)))), 
  (.mk (some 15) none (.pure (.mv (.t 1)))), 
  (.mk (some 16) none (.pure (.mv (.t 2)))), 
  (.mk (some 17) none (.call 23 [(.t 14), (.t 15), (.t 16)])), 
  (.mk (some 13) none (.pure (.mv (.t 17)))), 
  (.mk (some 18) none (.pure (.ext 0 (.t 13)))), 
  (.mk (some 19) none (.pure (.ext 1 (.t 13)))), 
  (.mk (some 20) none (.pure (.ext 2 (.t 13)))), 
  (.mk (some 9) none (.pure (.mv (.t 18)))), 
  (.mk (some 10) none (.pure (.mv (.t 19)))), 
  (.mk (some 11) none (.pure (.mv (.t 20))))]) (.seq (.seq (.ops [
  (.mk (some 21) none (.pure (.mv (.t 11)))), 
  (.mk (some 22) none (.pure (.bin .neq (.t 21) (.c (.i .i64 0)))))]) (.cond (.t 22) (.seq (.ops [
  (.mk (some 23) none (.pure (.mv (.t 11)))), 
  (.mk (some 6) none (.pure (.mv (.c (.i .i64 0))))), 
  (.mk (some 7) none (.pure (.mv (.c (.i .i64 0))))), 
  (.mk (some 8) none (.pure (.mv (.t 23))))]) .ret) .skip)) (.seq (.ops [
  (.mk (some 24) none (.pure (.mv (.t 10)))), 
  (.mk (some 25) none (.call 54 [(.t 24)])), 
  (.mk (some 12) none (.pure (.mv (.t 25))))]) (.seq (.ops [
  (.mk (some 26) none (.pure (.mv (.t 10)))), 
  (.mk (some 27) none (.pure (.mv (.t 12)))), 
  (.mk (some 28) none (.call 55 [(.t 26), (.t 27)])), 
  (.mk (some 29) none (.pure (.mv (.t 12)))), 
  (.mk (some 6) none (.pure (.mv (.t 28)))), 
  (.mk (some 7) none (.pure (.mv (.t 29)))), 
  (.mk (some 8) none (.pure (.mv (.c (.i .i64 0)))))]) .ret))))))
def fn26 : AFn := (AFn.mk 45 [(.t 6), (.t 7), (.t 8)] (.seq (.ops [
  (.mk (some 6) none (.pure (.mv (.c (.i .i64 0))))), 
  (.mk (some 7) none (.pure (.mv (.c (.i .i64 0))))), 
  (.mk (some 8) none (.pure (.mv (.c (.i .i64 0)))))]) (.seq (.ops [
  (.mk (some 15) none (.pure (.mv (.t 0)))), 
  (.mk (some 16) none (.pure (.mv (.t 1)))), 
  (.mk (some 17) none (.pure (.mv (.t 2)))), 
  (.mk (some 18) none (.call 24 [(.t 15), (.t 16), (.t 17)])), 
  (.mk (some 14) none (.pure (.mv (.t 18)))), 
  (.mk (some 19) none (.pure (.ext 0 (.t 14)))), 
  (.mk (some 20) none (.pure (.ext 1 (.t 14)))), 
  (.mk (some 21) none (.pure (.ext 2 (.t 14)))), 
  (.mk (some 9) none (.pure (.mv (.t 19)))), 
  (.mk (some 10) none (.pure (.mv (.t 20)))), 
  (.mk (some 11) none (.pure (.mv (.t 21))))]) (.seq (.seq (.ops [
  (.mk (some 22) none (.pure (.mv (.t 11)))), 
  (.mk (some 23) none (.pure (.bin .neq (.t 22) (.c (.i .i64 0)))))]) (.cond (.t 23) (.seq (.ops [
  (.mk (some 24) none (.pure (.mv (.t 11)))), 
  (.mk (some 6) none (.pure (.mv (.c (.i .i64 0))))), 
  (.mk (some 7) none (.pure (.mv (.c (.i .i64 0))))), 
  (.mk (some 8) none (.pure (.mv (.t 24))))]) .ret) .skip)) (.seq (.ops [
  (.mk (some 12) none (.pure (.mv (.c (.i .i64 0)))))]) (.seq (.seq (.ops [
  (.mk (some 13) none (.pure (.mv (.c (.i .i64 1)))))]) (.block 0 (.loop (.seq (.seq (.ops [
  (.mk (some 25) none (.pure (.mv (.t 13)))), 
  (.mk (some 26) none (.pure (.mv (.t 0)))), 
  (.mk (some 27) none (.pure (.bin .lss (.t 25) (.t 26))))]) (.cond (.t 27) .skip (.exit 0))) (.seq (.block 1 (.seq (.any [(
  (.mk (some 30) none (.pure (.mv (.t 10)))), false), (
  (.mk (some 31) none (.pure (.mv (.t 13)))), false), (
  (.mk (some 32) none (.pure (.ixS 1 (.t 30) (.t 31)))), false), (
  (.mk (some 33) none (.ld true 1 (.t 32))), false), (
  (.mk (some 34) none (.pure (.mv (.t 10)))), false), (
  (.mk (some 35) none (.pure (.mv (.t 12)))), false), (
  (.mk (some 36) none (.pure (.ixS 1 (.t 34) (.t 35)))), false), (
  (.mk (some 37) none (.ld true 1 (.t 36))), false), (
  (.mk (some 38) none (.pure (.bin .lss (.t 33) (.t 37)))), false)]) (.cond (.t 38) (.ops [
  (.mk (some 39) none (.pure (.mv (.t 13)))), 
  (.mk (some 12) none (.pure (.mv (.t 39))))]) .skip))) (.ops [
  (.mk (some 28) none (.pure (.mv (.t 13)))), 
  (.mk (some 29) none (.pure (.bin .add (.t 28) (.c (.i .i64 1))))), 
  (.mk (some 13) none (.pure (.mv (.t 29))))])))))) (.seq (.ops [
  (.mk (some 40) none (.pure (.mv (.t 12)))), 
  (.mk (some 41) none (.pure (.mv (.t 10)))), 
  (.mk (some 42) none (.pure (.mv (.t 12)))), 
  (.mk (some 43) none (.pure (.ixS 1 (.t 41) (.t 42)))), 
  (.mk (some 6) none (.pure (.mv (.t 40)))), 
  (.mk (some 44) none (.ld true 1 (.t 43))), 
  (.mk (some 7) none (.pure (.mv (.t 44)))), 
  (.mk (some 8) none (.pure (.mv (.c (.i .i64 0)))))]) .ret)))))))
def fn29 : AFn := (AFn.mk 13 [(.t 4), (.t 5)] (.seq (.ops [
  (.mk (some 4) none (.pure (.mv (.c (.i .i64 0))))), 
  (.mk (some 5) none (.pure (.mv (.c (.i .i64 0)))))]) (.seq (.seq (.ops [
  (.mk (some 6) none (.pure (.mv (.t 0)))), 
  (.mk (some 7) none (.pure (.mv (.t 1)))), 
  (.mk (some 8) none (.call 58 [(.t 6), (.t 7)])), 
  (.mk (some 9) none (.pure (.not (.t 8))))]) (.cond (.t 9) (.seq (.ops [
  (.mk (some 4) none (.pure (.mv (.c (.i .i64 0))))), 
  (.mk (some 5) none (.pure (.mv (.c (.i .i64 2)))))]) .ret) .skip)) (.seq (.seq (.ops [
  (.mk (some 10) none (.pure (.mv (.t 1)))), 
  (.mk (some 11) none (.call 59 [(.t 10)])), 
  (.mk (some 12) none (.pure (.bin .lss (.t 11) (.c (.i .i64 0)))))]) (.cond (.t 12) (.seq (.ops [
  (.mk (some 4) none (.pure (.mv (.c (.i .i64 0))))), 
  (.mk (some 5) none (.pure (.mv (.c (.i .i64 0)))))]) .ret) .skip)) (.seq (.ops [
  (.mk (some 4) none (.pure (.mv (.c (.i .i64 1))))), 
  (.mk (some 5) none (.pure (.mv (.c (.i .i64 0)))))]) .ret)))))
def fn31 : AFn := (AFn.mk 52 [(.c 6 false 2), (.t 7)] (.seq (.ops [
  (.mk (some 6) none (.al 42 [(.i .i64 0), (.i .i64 0)])), 
  (.mk (some 7) none (.pure (.mv (.c (.i .i64 0)))))]) (.seq (.ops [
  (.mk (some 13) none (.pure (.mv (.t 0)))), 
  (.mk (some 14) none (.pure (.mv (.t 1)))), 
  (.mk (some 15) none (.call 29 [(.t 13), (.t 14)])), 
  (.mk (some 12) none (.pure (.mv (.t 15)))), 
  (.mk (some 16) none (.pure (.ext 0 (.t 12)))), 
  (.mk (some 17) none (.pure (.ext 1 (.t 12)))), 
  (.mk (some 8) none (.pure (.mv (.t 16)))), 
  (.mk (some 9) none (.pure (.mv (.t 17))))]) (.seq (.seq (.ops [
  (.mk (some 18) none (.pure (.mv (.t 9)))), 
  (.mk (some 19) none (.pure (.bin .neq (.t 18) (.c (.i .i64 0)))))]) (.cond (.t 19) (.seq (.ops [
  (.mk (some 20) none (.pure (.build [(.i .i64 0), (.i .i64 0)] []))), 
  (.mk (some 21) none (.pure (.mv (.t 9)))), 
  (.mk none none (.st 2 (.t 6) (.t 20))), 
  (.mk (some 7) none (.pure (.mv (.t 21))))]) .ret) .skip)) (.seq (.seq (.ops [
  (.mk (some 22) none (.pure (.mv (.t 2)))), 
  (.mk (some 23) none (.pure (.len false (.t 22)))), 
  (.mk (some 24) none (.pure (.mv (.t 0)))), 
  (.mk (some 25) none (.pure (.bin .geq (.t 23) (.t 24)))), 
  (.mk (some 26) none (.pure (.mv (.t 25)))), 
  (.mk (some 27) (some (26, false)) (.pure (.mv (.t 2)))), 
  (.mk (some 28) (some (26, false)) (.pure (.mv (.t 2)))), 
  (.mk (some 29) (some (26, false)) (.pure (.len false (.t 28)))), 
  (.mk (some 30) (some (26, false)) (.call 61 [(.t 27), (.t 29)])), 
  (.mk (some 31) (some (26, false)) (.pure (.not (.t 30)))), 
  (.mk (some 32) none (.pure (.pick (.t 26) (.c (.b true)) (.t 31))))]) (.cond (.t 32) (.seq (.ops [
  (.mk (some 33) none (.pure (.build [(.i .i64 0), (.i .i64 0)] []))), 
  (.mk none none (.st 2 (.t 6) (.t 33))), 
  (.mk (some 7) none (.pure (.mv (.c (.i .i64 2)))))]) .ret) .skip)) (.seq (.seq (.ops [
  (.mk (some 34) none (.pure (.mv (.t 8)))), 
  (.mk (some 35) none (.pure (.bin .eql (.t 34) (.c (.i .i64 0)))))]) (.cond (.t 35) (.seq (.ops [
  (.mk (some 36) none (.pure (.build [(.i .i64 0), (.i .i64 0)] []))), 
  (.mk none none (.st 2 (.t 6) (.t 36))), 
  (.mk (some 7) none (.pure (.mv (.c (.i .i64 10)))))]) .ret) .skip)) (.seq (.seq (.ops [
  (.mk (some 37) none (.pure (.mv (.t 2)))), 
  (.mk (some 38) none (.pure (.len false (.t 37)))), 
  (.mk (some 39) none (.pure (.mv (.c (.i .i64 0)))))]) (.block 0 (.loop (.seq (.ops [
  (.mk (some 40) none (.pure (.bin .lss (.t 39) (.t 38))))]) (.seq (.cond (.t 40) .skip (.exit 0)) (.seq (.block 1 (.seq (.ops [
  (.mk (some 41) none (.pure (.ixS 1 (.t 37) (.t 39)))), 
  (.mk (some 42) none (.ld true 1 (.t 41))), 
  (.mk (some 11) none (.pure (.mv (.t 42))))]) (.ops [
  (.mk (some 43) none (.pure (.mv (.t 1)))), 
  (.mk (some 44) none (.pure (.mv (.t 11)))), 
  (.mk (some 45) none (.call 62 [(.t 43), (.t 44)])), 
  (.mk (some 1) none (.pure (.mv (.t 45))))]))) (.ops [
  (.mk (some 46) none (.pure (.bin .add (.t 39) (.c (.i .i64 1))))), 
  (.mk (some 39) none (.pure (.mv (.t 46))))]))))))) (.seq (.ops [
  (.mk (some 47) none (.pure (.mv (.t 1)))), 
  (.mk (some 48) none (.call 64 [(.t 47)])), 
  (.mk (some 49) none (.pure (.ext 0 (.t 48)))), 
  (.mk (some 50) none (.pure (.ext 1 (.t 48)))), 
  (.mk (some 51) none (.call 63 [(.t 49), (.t 50)])), 
  (.mk none none (.st 2 (.t 6) (.t 51))), 
  (.mk (some 7) none (.pure (.mv (.c (.i .i64 0)))))]) .ret))))))))
def fn35 : AFn := (AFn.mk 86 [(.c 6 false 2), (.t 7)] (.seq (.ops [
  (.mk (some 6) none (.al 42 [(.i .i64 0), (.i .i64 0)])), 
  (.mk (some 7) none (.pure (.mv (.c (.i .i64 0)))))]) (.seq (.seq (.ops [
  (.mk (some 16) none (.pure (.mv (.t 0)))), 
  (.mk (some 17) none (.pure (.bin .lss (.t 16) (.c (.i .i64 1))))), 
  (.mk (some 18) none (.pure (.mv (.t 17)))), 
  (.mk (some 19) (some (18, false)) (.pure (.mv (.t 0)))), 
  (.mk (some 20) (some (18, false)) (.pure (.bin .gtr (.t 19) (.c (.i .i64 10))))), 
  (.mk (some 21) none (.pure (.pick (.t 18) (.c (.b true)) (.t 20)))), 
  (.mk (some 22) none (.pure (.mv (.t 21)))), 
  (.mk (some 23) (some (22, false)) (.pure (.mv (.t 1)))), 
  (.mk (some 24) (some (22, false)) (.pure (.bin .lss (.t 23) (.c (.i .i64 1))))), 
  (.mk (some 25) none (.pure (.pick (.t 22) (.c (.b true)) (.t 24)))), 
  (.mk (some 26) none (.pure (.mv (.t 25)))), 
  (.mk (some 27) (some (26, false)) (.pure (.mv (.t 1)))), 
  (.mk (some 28) (some (26, false)) (.pure (.bin .gtr (.t 27) (.c (.i .i64 20))))), 
  (.mk (some 29) none (.pure (.pick (.t 26) (.c (.b true)) (.t 28)))), 
  (.mk (some 30) none (.pure (.mv (.t 29)))), 
  (.mk (some 31) (some (30, false)) (.pure (.mv (.t 2)))), 
  (.mk (some 32) (some (30, false)) (.pure (.mv (.t 0)))), 
  (.mk (some 33) (some (30, false)) (.pure (.mv (.t 1)))), 
  (.mk (some 34) (some (30, false)) (.call 68 [(.t 31), (.t 32), (.t 33)])), 
  (.mk (some 35) (some (30, false)) (.pure (.not (.t 34)))), 
  (.mk (some 36) none (.pure (.pick (.t 30) (.c (.b true)) (.t 35))))]) (.cond (.t 36) (.seq (.ops [
  (.mk (some 37) none (.pure (.build [(.i .i64 0), (.i .i64 0)] []))), 
  (.mk none none (.st 2 (.t 6) (.t 37))), 
  (.mk (some 7) none (.pure (.mv (.c (.i .i64 2)))))]) .ret) .skip)) (.seq (.ops [
  (.mk (some 38) none (.pure (.mv (.t 1)))), 
  (.mk (some 39) none (.mk 3 1 8 [(.i .i64 0)] (.t 38) (.t 38))), 
  (.mk (some 8) none (.pure (.mv (.t 39))))]) (.seq (.seq (.ops [
  (.mk (some 40) none (.pure (.mv (.t 2)))), 
  (.mk (some 41) none (.pure (.len false (.t 40)))), 
  (.mk (some 42) none (.pure (.mv (.c (.i .i64 0)))))]) (.block 0 (.loop (.seq (.ops [
  (.mk (some 43) none (.pure (.bin .lss (.t 42) (.t 41))))]) (.seq (.cond (.t 43) .skip (.exit 0)) (.seq (.block 1 (.seq (.ops [
  (.mk (some 44) none (.pure (.ixS 1 (.t 40) (.t 42)))), 
  (.mk (some 45) none (.ld true 1 (.t 44))), 
  (.mk (some 10) none (.pure (.mv (.t 45))))]) (.seq (.ops [
  (.mk (some 46) none (.pure (.mv (.t 10)))), 
  (.mk (some 47) none (.pure (.len false (.t 46)))), 
  (.mk (some 48) none (.pure (.mv (.c (.i .i64 0)))))]) (.block 2 (.loop (.seq (.ops [
  (.mk (some 49) none (.pure (.bin .lss (.t 48) (.t 47))))]) (.seq (.cond (.t 49) .skip (.exit 2)) (.seq (.block 3 (.seq (.ops [
  (.mk (some 50) none (.pure (.mv (.t 48)))), 
  (.mk (some 51) none (.pure (.ixS 1 (.t 46) (.t 48)))), 
  (.mk (some 52) none (.ld true 1 (.t 51))), 
  (.mk (some 11) none (.pure (.mv (.t 50)))), 
  (.mk (some 12) none (.pure (.mv (.t 52))))]) (.ops [
  (.mk (some 53) none (.pure (.mv (.t 8)))), 
  (.mk (some 54) none (.pure (.mv (.t 11)))), 
  (.mk (some 55) none (.pure (.mv (.t 8)))), 
  (.mk (some 56) none (.pure (.mv (.t 11)))), 
  (.mk (some 57) none (.pure (.ixS 1 (.t 55) (.t 56)))), 
  (.mk (some 58) none (.ld true 1 (.t 57))), 
  (.mk (some 59) none (.pure (.bin .mul (.c (.i .i64 2)) (.t 58)))), 
  (.mk (some 60) none (.pure (.mv (.t 12)))), 
  (.mk (some 61) none (.pure (.bin .add (.t 59) (.t 60)))), 
  (.mk (some 62) none (.pure (.ixS 1 (.t 53) (.t 54)))), 
  (.mk none none (.st 1 (.t 62) (.t 61)))]))) (.ops [
  (.mk (some 63) none (.pure (.bin .add (.t 48) (.c (.i .i64 1))))), 
  (.mk (some 48) none (.pure (.mv (.t 63))))]))))))))) (.ops [
  (.mk (some 64) none (.pure (.bin .add (.t 42) (.c (.i .i64 1))))), 
  (.mk (some 42) none (.pure (.mv (.t 64))))]))))))) (.seq (.ops [
  (.mk (some 65) none (.pure (.mv (.t 0)))), 
  (.mk (some 66) none (.pure (.bin .shl (.c (.i .i64 1)) (.t 65)))), 
  (.mk (some 13) none (.pure (.mv (.t 66))))]) (.seq (.ops [
  (.mk (some 14) none (.pure (.mv (.c (.i .i64 0)))))]) (.seq (.seq (.ops [
  (.mk (some 67) none (.pure (.mv (.t 13)))), 
  (.mk (some 68) none (.pure (.mv (.c (.i .i64 0)))))]) (.block 4 (.loop (.seq (.ops [
  (.mk (some 69) none (.pure (.bin .lss (.t 68) (.t 67))))]) (.seq (.cond (.t 69) .skip (.exit 4)) (.seq (.block 5 (.seq (.ops [
  (.mk (some 70) none (.pure (.mv (.t 68)))), 
  (.mk (some 15) none (.pure (.mv (.t 70))))]) (.ops [
  (.mk (some 71) none (.pure (.mv (.t 14)))), 
  (.mk (some 72) none (.pure (.mv (.t 8)))), 
  (.mk (some 73) none (.pure (.mv (.t 15)))), 
  (.mk (some 74) none (.call 69 [(.t 72), (.t 73)])), 
  (.mk (some 75) none (.pure (.bin .add (.t 71) (.t 74)))), 
  (.mk (some 14) none (.pure (.mv (.t 75))))]))) (.ops [
  (.mk (some 76) none (.pure (.bin .add (.t 68) (.c (.i .i64 1))))), 
  (.mk (some 68) none (.pure (.mv (.t 76))))]))))))) (.seq (.ops [
  (.mk (some 77) none (.pure (.mv (.t 0)))), 
  (.mk (some 78) none (.pure (.mv (.t 13)))), 
  (.mk (some 79) none (.pure (.bin .mul (.t 77) (.t 78)))), 
  (.mk (some 80) none (.pure (.mv (.t 14)))), 
  (.mk (some 81) none (.pure (.bin .mul (.c (.i .i64 2)) (.t 80)))), 
  (.mk (some 82) none (.pure (.bin .sub (.t 79) (.t 81)))), 
  (.mk (some 83) none (.pure (.mv (.t 13)))), 
  (.mk (some 84) none (.pure (.bin .mul (.c (.i .i64 2)) (.t 83)))), 
  (.mk (some 85) none (.call 63 [(.t 82), (.t 84)])), 
  (.mk none none (.st 2 (.t 6) (.t 85))), 
  (.mk (some 7) none (.pure (.mv (.c (.i .i64 0)))))]) .ret)))))))))
def fn38 : AFn := (AFn.mk 63 [(.t 6)] (.seq (.ops [
  (.mk (some 6) none (.pure (.mv (.c (.i .i64 0)))))]) (.seq (.seq (.ops [
  (.mk (some 10) none (.pure (.mv (.t 0)))), 
  (.mk (some 11) none (.pure (.bin .lss (.t 10) (.c (.i .i64 1))))), 
  (.mk (some 12) none (.pure (.mv (.t 11)))), 
  (.mk (some 13) (some (12, false)) (.pure (.mv (.t 0)))), 
  (.mk (some 14) (some (12, false)) (.pure (.bin .gtr (.t 13) (.c (.i .i64 20))))), 
  (.mk (some 15) none (.pure (.pick (.t 12) (.c (.b true)) (.t 14))))]) (.cond (.t 15) (.seq (.ops [
  (.mk (some 6) none (.pure (.mv (.c (.i .i64 2)))))]) .ret) .skip)) (.seq (.seq (.ops [
  (.mk (some 16) none (.pure (.mv (.t 1)))), 
  (.mk (some 17) none (.pure (.len false (.t 16)))), 
  (.mk (some 18) none (.pure (.bin .gtr (.t 17) (.c (.i .i64 200)))))]) (.cond (.t 18) (.seq (.ops [
  (.mk (some 6) none (.pure (.mv (.c (.i .i64 3)))))]) .ret) .skip)) (.seq (.seq (.ops [
  (.mk (some 7) none (.pure (.mv (.c (.i .i64 0)))))]) (.block 0 (.loop (.seq (.seq (.ops [
  (.mk (some 19) none (.pure (.mv (.t 7)))), 
  (.mk (some 20) none (.pure (.mv (.t 1)))), 
  (.mk (some 21) none (.pure (.len false (.t 20)))), 
  (.mk (some 22) none (.pure (.bin .lss (.t 19) (.t 21))))]) (.cond (.t 22) .skip (.exit 0))) (.seq (.block 1 (.seq (.seq (.ops [
  (.mk (some 25) none (.pure (.mv (.t 1)))), 
  (.mk (some 26) none (.pure (.mv (.t 7)))), 
  (.mk (some 27) none (.pure (.ixS 1 (.t 25) (.t 26)))), 
  (.mk (some 28) none (.ld true 1 (.t 27))), 
  (.mk (some 29) none (.pure (.len false (.t 28)))), 
  (.mk (some 30) none (.pure (.mv (.t 0)))), 
  (.mk (some 31) none (.pure (.bin .neq (.t 29) (.t 30))))]) (.cond (.t 31) (.seq (.ops [
  (.mk (some 6) none (.pure (.mv (.c (.i .i64 2)))))]) .ret) .skip)) (.seq (.ops [
  (.mk (some 8) none (.pure (.mv (.c (.i .i64 0)))))]) (.block 2 (.loop (.seq (.seq (.ops [
  (.mk (some 32) none (.pure (.mv (.t 8)))), 
  (.mk (some 33) none (.pure (.mv (.t 0)))), 
  (.mk (some 34) none (.pure (.bin .lss (.t 32) (.t 33))))]) (.cond (.t 34) .skip (.exit 2))) (.seq (.block 3 (.seq (.ops [
  (.mk (some 37) none (.pure (.mv (.t 1)))), 
  (.mk (some 38) none (.pure (.mv (.t 7)))), 
  (.mk (some 39) none (.pure (.ixS 1 (.t 37) (.t 38)))), 
  (.mk (some 40) none (.ld true 1 (.t 39))), 
  (.mk (some 41) none (.pure (.mv (.t 8)))), 
  (.mk (some 42) none (.pure (.ixS 1 (.t 40) (.t 41)))), 
  (.mk (some 43) none (.ld true 1 (.t 42))), 
  (.mk (some 44) none (.call 65 [(.t 43)])), 
  (.mk (some 45) none (.pure (.not (.t 44))))]) (.cond (.t 45) (.seq (.ops [
  (.mk (some 6) none (.pure (.mv (.c (.i .i64 2)))))]) .ret) .skip))) (.ops [
  (.mk (some 35) none (.pure (.mv (.t 8)))), 
  (.mk (some 36) none (.pure (.bin .add (.t 35) (.c (.i .i64 1))))), 
  (.mk (some 8) none (.pure (.mv (.t 36))))])))))))) (.ops [
  (.mk (some 23) none (.pure (.mv (.t 7)))), 
  (.mk (some 24) none (.pure (.bin .add (.t 23) (.c (.i .i64 1))))), 
  (.mk (some 7) none (.pure (.mv (.t 24))))])))))) (.seq (.seq (.ops [
  (.mk (some 46) none (.pure (.mv (.t 2)))), 
  (.mk (some 47) none (.pure (.len false (.t 46)))), 
  (.mk (some 48) none (.pure (.mv (.t 1)))), 
  (.mk (some 49) none (.pure (.len false (.t 48)))), 
  (.mk (some 50) none (.pure (.bin .neq (.t 47) (.t 49))))]) (.cond (.t 50) (.seq (.ops [
  (.mk (some 6) none (.pure (.mv (.c (.i .i64 2)))))]) .ret) .skip)) (.seq (.seq (.ops [
  (.mk (some 9) none (.pure (.mv (.c (.i .i64 0)))))]) (.block 4 (.loop (.seq (.seq (.ops [
  (.mk (some 51) none (.pure (.mv (.t 9)))), 
  (.mk (some 52) none (.pure (.mv (.t 2)))), 
  (.mk (some 53) none (.pure (.len false (.t 52)))), 
  (.mk (some 54) none (.pure (.bin .lss (.t 51) (.t 53))))]) (.cond (.t 54) .skip (.exit 4))) (.seq (.block 5 (.seq (.ops [
  (.mk (some 57) none (.pure (.mv (.t 2)))), 
  (.mk (some 58) none (.pure (.mv (.t 9)))), 
  (.mk (some 59) none (.pure (.ixS 1 (.t 57) (.t 58)))), 
  (.mk (some 60) none (.ld true 1 (.t 59))), 
  (.mk (some 61) none (.call 65 [(.t 60)])), 
  (.mk (some 62) none (.pure (.not (.t 61))))]) (.cond (.t 62) (.seq (.ops [
  (.mk (some 6) none (.pure (.mv (.c (.i .i64 2)))))]) .ret) .skip))) (.ops [
  (.mk (some 55) none (.pure (.mv (.t 9)))), 
  (.mk (some 56) none (.pure (.bin .add (.t 55) (.c (.i .i64 1))))), 
  (.mk (some 9) none (.pure (.mv (.t 56))))])))))) (.seq (.ops [
  (.mk (some 6) none (.pure (.mv (.c (.i .i64 0)))))]) .ret))))))))
def fn49 : AFn := (AFn.mk 29 [(.t 6)] (.seq (.ops [
  (.mk (some 6) none (.pure (.mv (.c (.i .i64 0)))))]) (.seq (.seq (.ops [
  (.mk (some 7) none (.pure (.mv (.t 0)))), 
  (.mk (some 8) none (.pure (.bin .lss (.t 7) (.c (.i .i64 1))))), 
  (.mk (some 9) none (.pure (.mv (.t 8)))), 
  (.mk (some 10) (some (9, false)) (.pure (.mv (.t 0)))), 
  (.mk (some 11) (some (9, false)) (.pure (.bin .gtr (.t 10) (.c (.i .i64 20))))), 
  (.mk (some 12) none (.pure (.pick (.t 9) (.c (.b true)) (.t 11))))]) (.cond (.t 12) (.seq (.ops [
  (.mk (some 6) none (.pure (.mv (.c (.i .i64 2)))))]) .ret) .skip)) (.seq (.seq (.ops [
  (.mk (some 13) none (.pure (.mv (.t 1)))), 
  (.mk (some 14) none (.pure (.len false (.t 13)))), 
  (.mk (some 15) none (.pure (.bin .gtr (.t 14) (.c (.i .i64 200)))))]) (.cond (.t 15) (.seq (.ops [
  (.mk (some 6) none (.pure (.mv (.c (.i .i64 3)))))]) .ret) .skip)) (.seq (.seq (.ops [
  (.mk (some 16) none (.pure (.mv (.t 1)))), 
  (.mk (some 17) none (.pure (.mv (.t 1)))), 
  (.mk (some 18) none (.pure (.len false (.t 17)))), 
  (.mk (some 19) none (.pure (.mv (.t 0)))), 
  (.mk (some 20) none (.call 68 [(.t 16), (.t 18), (.t 19)])), 
  (.mk (some 21) none (.pure (.not (.t 20)))), 
  (.mk (some 22) none (.pure (.mv (.t 21)))), 
  (.mk (some 23) (some (22, false)) (.pure (.mv (.t 2)))), 
  (.mk (some 24) (some (22, false)) (.pure (.mv (.t 1)))), 
  (.mk (some 25) (some (22, false)) (.pure (.len false (.t 24)))), 
  (.mk (some 26) (some (22, false)) (.call 61 [(.t 23), (.t 25)])), 
  (.mk (some 27) (some (22, false)) (.pure (.not (.t 26)))), 
  (.mk (some 28) none (.pure (.pick (.t 22) (.c (.b true)) (.t 27))))]) (.cond (.t 28) (.seq (.ops [
  (.mk (some 6) none (.pure (.mv (.c (.i .i64 2)))))]) .ret) .skip)) (.seq (.ops [
  (.mk (some 6) none (.pure (.mv (.c (.i .i64 0)))))]) .ret))))))
def fn50 : AFn := (AFn.mk 42 [(.t 6)] (.seq (.ops [
  (.mk (some 6) none (.pure (.mv (.c .nsl))))]) (.seq (.ops [
  (.mk (some 10) none (.pure (.mv (.t 1)))), 
  (.mk (some 11) none (.pure (.len false (.t 10)))), 
  (.mk (some 12) none (.mk 3 1 8 [(.i .i64 0)] (.t 11) (.t 11))), 
  (.mk (some 7) none (.pure (.mv (.t 12))))]) (.seq (.seq (.ops [
  (.mk (some 13) none (.pure (.mv (.t 1)))), 
  (.mk (some 14) none (.pure (.len false (.t 13)))), 
  (.mk (some 15) none (.pure (.mv (.c (.i .i64 0)))))]) (.block 0 (.loop (.seq (.ops [
  (.mk (some 16) none (.pure (.bin .lss (.t 15) (.t 14))))]) (.seq (.cond (.t 16) .skip (.exit 0)) (.seq (.block 1 (.seq (.ops [
  (.mk (some 17) none (.pure (.mv (.t 15)))), 
  (.mk (some 18) none (.pure (.ixS 1 (.t 13) (.t 15)))), 
  (.mk (some 19) none (.ld true 1 (.t 18))), 
  (.mk (some 8) none (.pure (.mv (.t 17)))), 
  (.mk (some 9) none (.pure (.mv (.t 19))))]) (.seq (.ops [
  (.mk (some 20) none (.pure (.mv (.t 7)))), 
  (.mk (some 21) none (.pure (.mv (.t 8)))), 
  (.mk (some 22) none (.pure (.mv (.t 0)))), 
  (.mk (some 23) none (.pure (.mv (.t 9)))), 
  (.mk (some 24) none (.calli [(71, (99, [])), (74, (103, [])), (75, (99, [(0, (1, false))])), (76, (105, []))] (.t 22) [(.t 23)])), 
  (.mk (some 25) none (.pure (.ixS 1 (.t 20) (.t 21)))), 
  (.mk none none (.st 1 (.t 25) (.t 24)))]) (.seq (.ops [
  (.mk (some 26) none (.pure (.mv (.t 0)))), 
  (.mk (some 27) none (.pure (.mv (.t 9)))), 
  (.mk (some 28) none (.pure (.mv (.t 7)))), 
  (.mk (some 29) none (.pure (.mv (.t 8)))), 
  (.mk (some 30) none (.pure (.ixS 1 (.t 28) (.t 29)))), 
  (.mk (some 32) none (.pure (.mv (.t 2)))), 
  (.mk (some 33) none (.pure (.mv (.t 8)))), 
  (.mk (some 34) none (.pure (.ixS 1 (.t 32) (.t 33)))), 
  (.mk (some 36) none (.pure (.mkbm "dibber/luck.learn" (.t 26)))), 
  (.mk (some 37) none (.pure (.nilm [("Error", [(8, (84, [])), (10, (86, [])), (11, (88, [])), (14, (90, [])), (19, (97, []))]), ("RuntimeError", [(8, (85, [])), (10, (87, [])), (11, (89, [])), (14, (91, [])), (19, (98, []))]), ("dibber/luck.foretell", [(71, (99, [])), (74, (103, [])), (75, (99, [(0, (1, false))])), (76, (105, []))]), ("dibber/luck.learn", [(71, (100, [])), (74, (104, [])), (75, (100, [(0, (1, false))])), (76, (100, [(0, (1, false))]))]), ("String", [(116, (106, []))])] (.t 36)))), 
  (.mk (some 38) none (.pure (.mv (.t 26))))]) (.seq (.any [(
  (.mk (some 31) none (.ld true 1 (.t 30))), false), (
  (.mk (some 35) none (.ld true 1 (.t 34))), false)]) (.ops [
  (.mk (some 39) none (.calli [(71, (100, [])), (74, (104, [])), (75, (100, [(0, (1, false))])), (76, (100, [(0, (1, false))]))] (.t 38) [(.t 27), (.t 31), (.t 35)]))])))))) (.ops [
  (.mk (some 40) none (.pure (.bin .add (.t 15) (.c (.i .i64 1))))), 
  (.mk (some 15) none (.pure (.mv (.t 40))))]))))))) (.seq (.ops [
  (.mk (some 41) none (.pure (.mv (.t 7)))), 
  (.mk (some 6) none (.pure (.mv (.t 41))))]) .ret)))))
def fn52 : AFn := (AFn.mk 30 [(.t 4)] (.seq (.ops [
  (.mk (some 4) none (.pure (.mv (.c (.b false)))))]) (.seq (.seq (.ops [
  (.mk (some 5) none (.pure (.mv (.c (.i .i64 0)))))]) (.block 0 (.loop (.seq (.seq (.ops [
  (.mk (some 6) none (.pure (.mv (.t 5)))), 
  (.mk (some 7) none (.pure (.mv (.t 0)))), 
  (.mk (some 8) none (.pure (.len false (.t 7)))), 
  (.mk (some 9) none (.pure (.bin .lss (.t 6) (.t 8))))]) (.cond (.t 9) .skip (.exit 0))) (.seq (.block 1 (.seq (.any [(
  (.mk (some 12) none (.pure (.mv (.t 0)))), false), (
  (.mk (some 13) none (.pure (.mv (.t 5)))), false), (
  (.mk (some 14) none (.pure (.ixS 1 (.t 12) (.t 13)))), false), (
  (.mk (some 15) none (.ld true 1 (.t 14))), false), (
  (.mk (some 16) none (.pure (.mv (.t 1)))), false), (
  (.mk (some 17) none (.pure (.mv (.t 5)))), false), (
  (.mk (some 18) none (.pure (.ixS 1 (.t 16) (.t 17)))), false), (
  (.mk (some 19) none (.ld true 1 (.t 18))), false), (
  (.mk (some 20) none (.pure (.bin .neq (.t 15) (.t 19)))), false)]) (.cond (.t 20) (.seq (.any [(
  (.mk (some 21) none (.pure (.mv (.t 0)))), false), (
  (.mk (some 22) none (.pure (.mv (.t 5)))), false), (
  (.mk (some 23) none (.pure (.ixS 1 (.t 21) (.t 22)))), false), (
  (.mk (some 24) none (.ld true 1 (.t 23))), false), (
  (.mk (some 25) none (.pure (.mv (.t 1)))), false), (
  (.mk (some 26) none (.pure (.mv (.t 5)))), false), (
  (.mk (some 27) none (.pure (.ixS 1 (.t 25) (.t 26)))), false), (
  (.mk (some 28) none (.ld true 1 (.t 27))), false), (
  (.mk (some 29) none (.pure (.bin .gtr (.t 24) (.t 28)))), false), (
  (.mk (some 4) none (.pure (.mv (.t 29)))), false)]) .ret) .skip))) (.ops [
  (.mk (some 10) none (.pure (.mv (.t 5)))), 
  (.mk (some 11) none (.pure (.bin .add (.t 10) (.c (.i .i64 1))))), 
  (.mk (some 5) none (.pure (.mv (.t 11))))])))))) (.seq (.ops [
  (.mk (some 4) none (.pure (.mv (.c (.b false)))))]) .ret))))
def fn53 : AFn := (AFn.mk 57 [(.t 6)] (.seq (.ops [
  (.mk (some 6) none (.pure (.mv (.c .nsl))))]) (.seq (.ops [
  (.mk (some 10) none (.mk 3 1 8 [(.i .i64 0)] (.c (.i .i64 201)) (.c (.i .i64 201)))), 
  (.mk (some 7) none (.pure (.mv (.t 10))))]) (.seq (.seq (.ops [
  (.mk (some 8) none (.pure (.mv (.c (.i .i64 0)))))]) (.block 0 (.loop (.seq (.seq (.ops [
  (.mk (some 11) none (.pure (.mv (.t 8)))), 
  (.mk (some 12) none (.pure (.mv (.t 0)))), 
  (.mk (some 13) none (.pure (.len false (.t 12)))), 
  (.mk (some 14) none (.pure (.bin .lss (.t 11) (.t 13))))]) (.cond (.t 14) .skip (.exit 0))) (.seq (.block 1 (.seq (.ops [
  (.mk (some 17) none (.pure (.mv (.t 1)))), 
  (.mk (some 18) none (.pure (.mv (.t 8)))), 
  (.mk (some 19) none (.pure (.ixS 1 (.t 17) (.t 18)))), 
  (.mk (some 20) none (.ld true 1 (.t 19))), 
  (.mk (some 21) none (.pure (.mv (.t 2)))), 
  (.mk (some 22) none (.pure (.bin .eql (.t 20) (.t 21))))]) (.cond (.t 22) (.ops [
  (.mk (some 23) none (.pure (.mv (.t 7)))), 
  (.mk (some 24) none (.pure (.mv (.t 0)))), 
  (.mk (some 25) none (.pure (.mv (.t 8)))), 
  (.mk (some 26) none (.pure (.ixS 1 (.t 24) (.t 25)))), 
  (.mk (some 27) none (.ld true 1 (.t 26))), 
  (.mk (some 28) none (.pure (.ixS 1 (.t 23) (.t 27)))), 
  (.mk (some 29) none (.ld true 1 (.t 28))), 
  (.mk (some 30) none (.pure (.bin .add (.t 29) (.c (.i .i64 1))))), 
  (.mk (some 31) none (.pure (.ixS 1 (.t 23) (.t 27)))), 
  (.mk none none (.st 1 (.t 31) (.t 30)))]) .skip))) (.ops [
  (.mk (some 15) none (.pure (.mv (.t 8)))), 
  (.mk (some 16) none (.pure (.bin .add (.t 15) (.c (.i .i64 1))))), 
  (.mk (some 8) none (.pure (.mv (.t 16))))])))))) (.seq (.seq (.ops [
  (.mk (some 9) none (.pure (.mv (.c (.i .i64 200)))))]) (.block 2 (.loop (.seq (.seq (.ops [
  (.mk (some 32) none (.pure (.mv (.t 9)))), 
  (.mk (some 33) none (.pure (.bin .gtr (.t 32) (.c (.i .i64 0)))))]) (.cond (.t 33) .skip (.exit 2))) (.seq (.block 3 (.seq (.any [(
  (.mk (some 36) none (.pure (.mv (.t 7)))), false), (
  (.mk (some 37) none (.pure (.mv (.t 9)))), false), (
  (.mk (some 38) none (.pure (.bin .sub (.t 37) (.c (.i .i64 1))))), false), (
  (.mk (some 39) none (.pure (.ixS 1 (.t 36) (.t 38)))), false), (
  (.mk (some 40) none (.ld true 1 (.t 39))), false), (
  (.mk (some 41) none (.pure (.mv (.t 7)))), false), (
  (.mk (some 42) none (.pure (.mv (.t 9)))), false), (
  (.mk (some 43) none (.pure (.ixS 1 (.t 41) (.t 42)))), false), (
  (.mk (some 44) none (.ld true 1 (.t 43))), false), (
  (.mk (some 45) none (.pure (.bin .quo (.t 44) (.c (.i .i64 2))))), false), (
  (.mk (some 46) none (.pure (.bin .add (.t 40) (.t 45)))), false), (
  (.mk (some 47) none (.pure (.ixS 1 (.t 36) (.t 38)))), false), (
  (.mk none none (.st 1 (.t 47) (.t 46))), false)]) (.ops [
  (.mk (some 48) none (.pure (.mv (.t 7)))), 
  (.mk (some 49) none (.pure (.mv (.t 9)))), 
  (.mk (some 50) none (.pure (.mv (.t 7)))), 
  (.mk (some 51) none (.pure (.mv (.t 9)))), 
  (.mk (some 52) none (.pure (.ixS 1 (.t 50) (.t 51)))), 
  (.mk (some 53) none (.ld true 1 (.t 52))), 
  (.mk (some 54) none (.pure (.bin .rem (.t 53) (.c (.i .i64 2))))), 
  (.mk (some 55) none (.pure (.ixS 1 (.t 48) (.t 49)))), 
  (.mk none none (.st 1 (.t 55) (.t 54)))]))) (.ops [
  (.mk (some 34) none (.pure (.mv (.t 9)))), 
  (.mk (some 35) none (.pure (.bin .sub (.t 34) (.c (.i .i64 1))))), 
  (.mk (some 9) none (.pure (.mv (.t 35))))])))))) (.seq (.ops [
  (.mk (some 56) none (.pure (.mv (.t 7)))), 
  (.mk (some 6) none (.pure (.mv (.t 56))))]) .ret))))))
def fn54 : AFn := (AFn.mk 25 [(.t 2)] (.seq (.ops [
  (.mk (some 2) none (.pure (.mv (.c (.i .i64 0)))))]) (.seq (.seq (.ops [
  (.mk (some 5) none (.pure (.mv (.t 0)))), 
  (.mk (some 6) none (.pure (.len false (.t 5)))), 
  (.mk (some 7) none (.pure (.bin .lss (.t 6) (.c (.i .i64 1)))))]) (.cond (.t 7) (.ops [
  (.mk none none (.ld true 1 (.c (.b true))))]) .skip)) (.seq (.ops [
  (.mk (some 9) none (.pure (.mv (.t 0)))), 
  (.mk (some 10) none (.pure (.ixS 1 (.t 9) (.c (.i .i64 0))))), 
  (.mk (some 11) none (.ld true 1 (.t 10))), 
  (.mk (some 3) none (.pure (.mv (.t 11))))]) (.seq (.seq (.ops [
  (.mk (some 4) none (.pure (.mv (.c (.i .i64 1)))))]) (.block 0 (.loop (.seq (.seq (.ops [
  (.mk (some 12) none (.pure (.mv (.t 4)))), 
  (.mk (some 13) none (.pure (.mv (.t 0)))), 
  (.mk (some 14) none (.pure (.len false (.t 13)))), 
  (.mk (some 15) none (.pure (.bin .lss (.t 12) (.t 14))))]) (.cond (.t 15) .skip (.exit 0))) (.seq (.block 1 (.ops [
  (.mk (some 18) none (.pure (.mv (.t 3)))), 
  (.mk (some 19) none (.pure (.mv (.t 0)))), 
  (.mk (some 20) none (.pure (.mv (.t 4)))), 
  (.mk (some 21) none (.pure (.ixS 1 (.t 19) (.t 20)))), 
  (.mk (some 22) none (.ld true 1 (.t 21))), 
  (.mk (some 23) none (.pure (.mx false (.t 18) (.t 22)))), 
  (.mk (some 3) none (.pure (.mv (.t 23))))])) (.ops [
  (.mk (some 16) none (.pure (.mv (.t 4)))), 
  (.mk (some 17) none (.pure (.bin .add (.t 16) (.c (.i .i64 1))))), 
  (.mk (some 4) none (.pure (.mv (.t 17))))])))))) (.seq (.ops [
  (.mk (some 24) none (.pure (.mv (.t 3)))), 
  (.mk (some 2) none (.pure (.mv (.t 24))))]) .ret))))))
def fn55 : AFn := (AFn.mk 19 [(.t 4)] (.seq (.ops [
  (.mk (some 4) none (.pure (.mv (.c (.i .i64 0)))))]) (.seq (.seq (.ops [
  (.mk (some 6) none (.pure (.mv (.t 0)))), 
  (.mk (some 7) none (.pure (.len false (.t 6)))), 
  (.mk (some 8) none (.pure (.mv (.c (.i .i64 0)))))]) (.block 0 (.loop (.seq (.ops [
  (.mk (some 9) none (.pure (.bin .lss (.t 8) (.t 7))))]) (.seq (.cond (.t 9) .skip (.exit 0)) (.seq (.block 1 (.seq (.ops [
  (.mk (some 10) none (.pure (.mv (.t 8)))), 
  (.mk (some 5) none (.pure (.mv (.t 10))))]) (.seq (.ops [
  (.mk (some 11) none (.pure (.mv (.t 1)))), 
  (.mk (some 12) none (.pure (.mv (.t 0)))), 
  (.mk (some 13) none (.pure (.mv (.t 5)))), 
  (.mk (some 14) none (.pure (.ixS 1 (.t 12) (.t 13)))), 
  (.mk (some 15) none (.ld true 1 (.t 14))), 
  (.mk (some 16) none (.pure (.bin .eql (.t 11) (.t 15))))]) (.cond (.t 16) (.seq (.ops [
  (.mk (some 17) none (.pure (.mv (.t 5)))), 
  (.mk (some 4) none (.pure (.mv (.t 17))))]) .ret) .skip)))) (.ops [
  (.mk (some 18) none (.pure (.bin .add (.t 8) (.c (.i .i64 1))))), 
  (.mk (some 8) none (.pure (.mv (.t 18))))]))))))) (.seq (.ops [
  (.mk (some 4) none (.pure (.mv (.c (.i .i64 (-1))))))]) .ret))))
def fn58 : AFn := (AFn.mk 35 [(.t 4)] (.seq (.ops [
  (.mk (some 4) none (.pure (.mv (.c (.b false)))))]) (.seq (.seq (.ops [
  (.mk (some 7) none (.pure (.mv (.t 0)))), 
  (.mk (some 8) none (.pure (.bin .lss (.t 7) (.c (.i .i64 1))))), 
  (.mk (some 9) none (.pure (.mv (.t 8)))), 
  (.mk (some 10) (some (9, false)) (.pure (.mv (.t 0)))), 
  (.mk (some 11) (some (9, false)) (.pure (.bin .gtr (.t 10) (.c (.i .i64 10))))), 
  (.mk (some 12) none (.pure (.pick (.t 9) (.c (.b true)) (.t 11)))), 
  (.mk (some 13) none (.pure (.mv (.t 12)))), 
  (.mk (some 14) (some (13, false)) (.pure (.mv (.t 1)))), 
  (.mk (some 15) (some (13, false)) (.pure (.len false (.t 14)))), 
  (.mk (some 16) (some (13, false)) (.pure (.mv (.t 0)))), 
  (.mk (some 17) (some (13, false)) (.pure (.bin .shl (.c (.i .i64 1)) (.t 16)))), 
  (.mk (some 18) (some (13, false)) (.pure (.bin .neq (.t 15) (.t 17)))), 
  (.mk (some 19) none (.pure (.pick (.t 13) (.c (.b true)) (.t 18))))]) (.cond (.t 19) (.seq (.ops [
  (.mk (some 4) none (.pure (.mv (.c (.b false)))))]) .ret) .skip)) (.seq (.seq (.ops [
  (.mk (some 20) none (.pure (.mv (.t 1)))), 
  (.mk (some 21) none (.pure (.len false (.t 20)))), 
  (.mk (some 22) none (.pure (.mv (.c (.i .i64 0)))))]) (.block 0 (.loop (.seq (.ops [
  (.mk (some 23) none (.pure (.bin .lss (.t 22) (.t 21))))]) (.seq (.cond (.t 23) .skip (.exit 0)) (.seq (.block 1 (.seq (.ops [
  (.mk (some 24) none (.pure (.ixS 1 (.t 20) (.t 22)))), 
  (.mk (some 25) none (.ld true 1 (.t 24))), 
  (.mk (some 6) none (.pure (.mv (.t 25))))]) (.seq (.ops [
  (.mk (some 26) none (.pure (.mv (.t 6)))), 
  (.mk (some 27) none (.pure (.bin .lss (.t 26) (.c (.i .i64 0))))), 
  (.mk (some 28) none (.pure (.mv (.t 27)))), 
  (.mk (some 29) (some (28, false)) (.pure (.mv (.t 6)))), 
  (.mk (some 30) (some (28, false)) (.pure (.mv (.t 0)))), 
  (.mk (some 31) (some (28, false)) (.pure (.bin .mul (.t 30) (.c (.i .i64 60))))), 
  (.mk (some 32) (some (28, false)) (.pure (.bin .gtr (.t 29) (.t 31)))), 
  (.mk (some 33) none (.pure (.pick (.t 28) (.c (.b true)) (.t 32))))]) (.cond (.t 33) (.seq (.ops [
  (.mk (some 4) none (.pure (.mv (.c (.b false)))))]) .ret) .skip)))) (.ops [
  (.mk (some 34) none (.pure (.bin .add (.t 22) (.c (.i .i64 1))))), 
  (.mk (some 22) none (.pure (.mv (.t 34))))]))))))) (.seq (.ops [
  (.mk (some 4) none (.pure (.mv (.c (.b true)))))]) .ret)))))
def fn59 : AFn := (AFn.mk 32 [(.t 2)] (.seq (.ops [
  (.mk (some 2) none (.pure (.mv (.c (.i .i64 0)))))]) (.seq (.seq (.ops [
  (.mk (some 6) none (.pure (.mv (.t 0)))), 
  (.mk (some 7) none (.pure (.len false (.t 6)))), 
  (.mk (some 8) none (.pure (.bin .eql (.t 7) (.c (.i .i64 1)))))]) (.cond (.t 8) (.seq (.ops [
  (.mk (some 9) none (.pure (.mv (.t 0)))), 
  (.mk (some 10) none (.pure (.ixS 1 (.t 9) (.c (.i .i64 0))))), 
  (.mk (some 11) none (.ld true 1 (.t 10))), 
  (.mk (some 2) none (.pure (.mv (.t 11))))]) .ret) .skip)) (.seq (.ops [
  (.mk (some 12) none (.pure (.mv (.t 0)))), 
  (.mk (some 13) none (.call 62 [(.t 12), (.c (.i .i64 0))])), 
  (.mk (some 14) none (.call 59 [(.t 13)])), 
  (.mk (some 15) none (.pure (.mv (.t 0)))), 
  (.mk (some 16) none (.call 62 [(.t 15), (.c (.i .i64 1))])), 
  (.mk (some 17) none (.call 59 [(.t 16)])), 
  (.mk (some 3) none (.pure (.mv (.t 14)))), 
  (.mk (some 4) none (.pure (.mv (.t 17))))]) (.seq (.ops [
  (.mk (some 18) none (.pure (.mv (.t 3)))), 
  (.mk (some 19) none (.pure (.mv (.t 4)))), 
  (.mk (some 20) none (.pure (.bin .add (.t 18) (.t 19)))), 
  (.mk (some 21) none (.pure (.mv (.t 0)))), 
  (.mk (some 22) none (.pure (.len false (.t 21)))), 
  (.mk (some 23) none (.pure (.bin .mul (.c (.i .i64 60)) (.t 22)))), 
  (.mk (some 24) none (.pure (.bin .quo (.t 23) (.c (.i .i64 2))))), 
  (.mk (some 25) none (.pure (.bin .sub (.t 20) (.t 24)))), 
  (.mk (some 5) none (.pure (.mv (.t 25))))]) (.seq (.ops [
  (.mk (some 26) none (.pure (.mv (.t 5)))), 
  (.mk (some 27) none (.pure (.mv (.t 3)))), 
  (.mk (some 28) none (.pure (.bin .mul (.c (.i .i64 2)) (.t 27)))), 
  (.mk (some 29) none (.pure (.mv (.t 4)))), 
  (.mk (some 30) none (.pure (.bin .mul (.c (.i .i64 2)) (.t 29)))), 
  (.mk (some 31) none (.pure (.mx3 false (.t 26) (.t 28) (.t 30)))), 
  (.mk (some 2) none (.pure (.mv (.t 31))))]) .ret))))))
def fn61 : AFn := (AFn.mk 24 [(.t 4)] (.seq (.ops [
  (.mk (some 4) none (.pure (.mv (.c (.b false)))))]) (.seq (.seq (.ops [
  (.mk (some 7) none (.pure (.mv (.t 0)))), 
  (.mk (some 8) none (.pure (.len false (.t 7)))), 
  (.mk (some 9) none (.pure (.mv (.c (.i .i64 0)))))]) (.block 0 (.loop (.seq (.ops [
  (.mk (some 10) none (.pure (.bin .lss (.t 9) (.t 8))))]) (.seq (.cond (.t 10) .skip (.exit 0)) (.seq (.block 1 (.seq (.ops [
  (.mk (some 11) none (.pure (.ixS 1 (.t 7) (.t 9)))), 
  (.mk (some 12) none (.ld true 1 (.t 11))), 
  (.mk (some 6) none (.pure (.mv (.t 12))))]) (.seq (.ops [
  (.mk (some 13) none (.pure (.mv (.t 6)))), 
  (.mk (some 14) none (.pure (.bin .neq (.t 13) (.c (.i .i64 0))))), 
  (.mk (some 15) none (.pure (.mv (.t 14)))), 
  (.mk (some 16) (some (15, true)) (.pure (.mv (.t 6)))), 
  (.mk (some 17) (some (15, true)) (.pure (.bin .neq (.t 16) (.c (.i .i64 1))))), 
  (.mk (some 18) none (.pure (.pick (.t 15) (.t 17) (.c (.b false)))))]) (.cond (.t 18) (.seq (.ops [
  (.mk (some 4) none (.pure (.mv (.c (.b false)))))]) .ret) .skip)))) (.ops [
  (.mk (some 19) none (.pure (.bin .add (.t 9) (.c (.i .i64 1))))), 
  (.mk (some 9) none (.pure (.mv (.t 19))))]))))))) (.seq (.ops [
  (.mk (some 20) none (.pure (.mv (.t 0)))), 
  (.mk (some 21) none (.pure (.len false (.t 20)))), 
  (.mk (some 22) none (.pure (.mv (.t 1)))), 
  (.mk (some 23) none (.pure (.bin .eql (.t 21) (.t 22)))), 
  (.mk (some 4) none (.pure (.mv (.t 23))))]) .ret))))
def fn62 : AFn := (AFn.mk 17 [(.t 4)] (.seq (.ops [
  (.mk (some 4) none (.pure (.mv (.c .nsl))))]) (.seq (.ops [
  (.mk (some 6) none (.pure (.mv (.t 0)))), 
  (.mk (some 7) none (.pure (.len false (.t 6)))), 
  (.mk (some 8) none (.pure (.bin .quo (.t 7) (.c (.i .i64 2))))), 
  (.mk (some 5) none (.pure (.mv (.t 8))))]) (.seq (.seq (.ops [
  (.mk (some 9) none (.pure (.mv (.t 1)))), 
  (.mk (some 10) none (.pure (.bin .eql (.t 9) (.c (.i .i64 0)))))]) (.cond (.t 10) (.seq (.ops [
  (.mk (some 11) none (.pure (.mv (.t 0)))), 
  (.mk (some 12) none (.pure (.mv (.t 5)))), 
  (.mk (some 13) none (.pure (.slS 1 (.t 11) none (some (.t 12)) none))), 
  (.mk (some 4) none (.pure (.mv (.t 13))))]) .ret) .skip)) (.seq (.ops [
  (.mk (some 14) none (.pure (.mv (.t 0)))), 
  (.mk (some 15) none (.pure (.mv (.t 5)))), 
  (.mk (some 16) none (.pure (.slS 1 (.t 14) (some (.t 15)) none none))), 
  (.mk (some 4) none (.pure (.mv (.t 16))))]) .ret)))))
def fn63 : AFn := (AFn.mk 22 [(.c 4 false 2)] (.seq (.ops [
  (.mk (some 4) none (.al 42 [(.i .i64 0), (.i .i64 0)]))]) (.seq (.ops [
  (.mk (some 7) none (.pure (.mv (.t 0)))), 
  (.mk (some 8) none (.pure (.mv (.t 1)))), 
  (.mk (some 5) none (.pure (.mv (.t 7)))), 
  (.mk (some 6) none (.pure (.mv (.t 8))))]) (.seq (.block 0 (.loop (.seq (.seq (.ops [
  (.mk (some 9) none (.pure (.mv (.t 6)))), 
  (.mk (some 10) none (.pure (.bin .neq (.t 9) (.c (.i .i64 0)))))]) (.cond (.t 10) .skip (.exit 0))) (.block 1 (.ops [
  (.mk (some 11) none (.pure (.mv (.t 6)))), 
  (.mk (some 12) none (.pure (.mv (.t 5)))), 
  (.mk (some 13) none (.pure (.mv (.t 6)))), 
  (.mk (some 14) none (.pure (.bin .rem (.t 12) (.t 13)))), 
  (.mk (some 5) none (.pure (.mv (.t 11)))), 
  (.mk (some 6) none (.pure (.mv (.t 14))))]))))) (.seq (.ops [
  (.mk (some 15) none (.pure (.mv (.t 0)))), 
  (.mk (some 16) none (.pure (.mv (.t 5)))), 
  (.mk (some 17) none (.pure (.bin .quo (.t 15) (.t 16)))), 
  (.mk (some 18) none (.pure (.mv (.t 1)))), 
  (.mk (some 19) none (.pure (.mv (.t 5)))), 
  (.mk (some 20) none (.pure (.bin .quo (.t 18) (.t 19)))), 
  (.mk (some 21) none (.pure (.build [(.i .i64 0), (.i .i64 0)] [((0, 1), (.t 17)), ((1, 1), (.t 20))]))), 
  (.mk none none (.st 2 (.t 4) (.t 21)))]) .ret)))))
def fn64 : AFn := (AFn.mk 22 [(.t 2), (.t 3)] (.seq (.ops [
  (.mk (some 2) none (.pure (.mv (.c (.i .i64 0))))), 
  (.mk (some 3) none (.pure (.mv (.c (.i .i64 0)))))]) (.seq (.ops [
  (.mk (some 4) none (.pure (.mv (.t 0)))), 
  (.mk (some 5) none (.pure (.len false (.t 4)))), 
  (.mk (some 6) none (.pure (.bin .mul (.c (.i .i64 60)) (.t 5)))), 
  (.mk (some 3) none (.pure (.mv (.t 6))))]) (.seq (.ops [
  (.mk (some 7) none (.pure (.mv (.t 3)))), 
  (.mk (some 8) none (.pure (.bin .quo (.t 7) (.c (.i .i64 2))))), 
  (.mk (some 9) none (.pure (.mv (.t 0)))), 
  (.mk (some 10) none (.call 62 [(.t 9), (.c (.i .i64 0))])), 
  (.mk (some 11) none (.call 76 [(.t 10)])), 
  (.mk (some 12) none (.pure (.bin .add (.t 8) (.t 11)))), 
  (.mk (some 13) none (.pure (.mv (.t 0)))), 
  (.mk (some 14) none (.call 62 [(.t 13), (.c (.i .i64 1))])), 
  (.mk (some 15) none (.call 76 [(.t 14)])), 
  (.mk (some 16) none (.pure (.bin .sub (.t 12) (.t 15)))), 
  (.mk (some 2) none (.pure (.mv (.t 16))))]) (.seq (.ops [
  (.mk (some 17) none (.pure (.mv (.t 2)))), 
  (.mk (some 18) none (.pure (.mv (.t 3)))), 
  (.mk (some 19) none (.pure (.mx false (.t 17) (.t 18)))), 
  (.mk (some 20) none (.pure (.mx true (.c (.i .i64 0)) (.t 19)))), 
  (.mk (some 21) none (.pure (.mv (.t 3)))), 
  (.mk (some 2) none (.pure (.mv (.t 20)))), 
  (.mk (some 3) none (.pure (.mv (.t 21))))]) .ret)))))
def fn65 : AFn := (AFn.mk 9 [(.t 2)] (.seq (.ops [
  (.mk (some 2) none (.pure (.mv (.c (.b false)))))]) (.seq (.ops [
  (.mk (some 3) none (.pure (.mv (.t 0)))), 
  (.mk (some 4) none (.pure (.bin .eql (.t 3) (.c (.i .i64 0))))), 
  (.mk (some 5) none (.pure (.mv (.t 4)))), 
  (.mk (some 6) (some (5, false)) (.pure (.mv (.t 0)))), 
  (.mk (some 7) (some (5, false)) (.pure (.bin .eql (.t 6) (.c (.i .i64 1))))), 
  (.mk (some 8) none (.pure (.pick (.t 5) (.c (.b true)) (.t 7)))), 
  (.mk (some 2) none (.pure (.mv (.t 8))))]) .ret)))
def fn68 : AFn := (AFn.mk 24 [(.t 6)] (.seq (.ops [
  (.mk (some 6) none (.pure (.mv (.c (.b false)))))]) (.seq (.seq (.ops [
  (.mk (some 9) none (.pure (.mv (.t 0)))), 
  (.mk (some 10) none (.pure (.len false (.t 9)))), 
  (.mk (some 11) none (.pure (.mv (.c (.i .i64 0)))))]) (.block 0 (.loop (.seq (.ops [
  (.mk (some 12) none (.pure (.bin .lss (.t 11) (.t 10))))]) (.seq (.cond (.t 12) .skip (.exit 0)) (.seq (.block 1 (.seq (.ops [
  (.mk (some 13) none (.pure (.ixS 1 (.t 9) (.t 11)))), 
  (.mk (some 14) none (.ld true 1 (.t 13))), 
  (.mk (some 8) none (.pure (.mv (.t 14))))]) (.seq (.ops [
  (.mk (some 15) none (.pure (.mv (.t 8)))), 
  (.mk (some 16) none (.pure (.mv (.t 2)))), 
  (.mk (some 17) none (.call 61 [(.t 15), (.t 16)])), 
  (.mk (some 18) none (.pure (.not (.t 17))))]) (.cond (.t 18) (.seq (.ops [
  (.mk (some 6) none (.pure (.mv (.c (.b false)))))]) .ret) .skip)))) (.ops [
  (.mk (some 19) none (.pure (.bin .add (.t 11) (.c (.i .i64 1))))), 
  (.mk (some 11) none (.pure (.mv (.t 19))))]))))))) (.seq (.ops [
  (.mk (some 20) none (.pure (.mv (.t 0)))), 
  (.mk (some 21) none (.pure (.len false (.t 20)))), 
  (.mk (some 22) none (.pure (.mv (.t 1)))), 
  (.mk (some 23) none (.pure (.bin .eql (.t 21) (.t 22)))), 
  (.mk (some 6) none (.pure (.mv (.t 23))))]) .ret))))
def fn69 : AFn := (AFn.mk 23 [(.t 4)] (.seq (.ops [
  (.mk (some 4) none (.pure (.mv (.c (.i .i64 0)))))]) (.seq (.ops [
  (.mk (some 5) none (.pure (.mv (.c (.i .i64 10)))))]) (.seq (.seq (.ops [
  (.mk (some 8) none (.pure (.mv (.t 0)))), 
  (.mk (some 9) none (.pure (.len false (.t 8)))), 
  (.mk (some 10) none (.pure (.mv (.c (.i .i64 0)))))]) (.block 0 (.loop (.seq (.ops [
  (.mk (some 11) none (.pure (.bin .lss (.t 10) (.t 9))))]) (.seq (.cond (.t 11) .skip (.exit 0)) (.seq (.block 1 (.seq (.ops [
  (.mk (some 12) none (.pure (.ixS 1 (.t 8) (.t 10)))), 
  (.mk (some 13) none (.ld true 1 (.t 12))), 
  (.mk (some 7) none (.pure (.mv (.t 13))))]) (.ops [
  (.mk (some 14) none (.pure (.mv (.t 5)))), 
  (.mk (some 15) none (.pure (.mv (.t 7)))), 
  (.mk (some 16) none (.pure (.mv (.t 1)))), 
  (.mk (some 17) none (.pure (.bin .xor (.t 15) (.t 16)))), 
  (.mk (some 18) none (.pure (.conv .u64 (.t 17)))), 
  (.mk (some 19) none (.call 78 [(.t 18)])), 
  (.mk (some 20) none (.pure (.mx false (.t 14) (.t 19)))), 
  (.mk (some 5) none (.pure (.mv (.t 20))))]))) (.ops [
  (.mk (some 21) none (.pure (.bin .add (.t 10) (.c (.i .i64 1))))), 
  (.mk (some 10) none (.pure (.mv (.t 21))))]))))))) (.seq (.ops [
  (.mk (some 22) none (.pure (.mv (.t 5)))), 
  (.mk (some 4) none (.pure (.mv (.t 22))))]) .ret)))))
def fn76 : AFn := (AFn.mk 17 [(.t 2)] (.seq (.ops [
  (.mk (some 2) none (.pure (.mv (.c (.i .i64 0)))))]) (.seq (.ops [
  (.mk (some 3) none (.pure (.mv (.c (.i .i64 0)))))]) (.seq (.seq (.ops [
  (.mk (some 6) none (.pure (.mv (.t 0)))), 
  (.mk (some 7) none (.pure (.len false (.t 6)))), 
  (.mk (some 8) none (.pure (.mv (.c (.i .i64 0)))))]) (.block 0 (.loop (.seq (.ops [
  (.mk (some 9) none (.pure (.bin .lss (.t 8) (.t 7))))]) (.seq (.cond (.t 9) .skip (.exit 0)) (.seq (.block 1 (.seq (.ops [
  (.mk (some 10) none (.pure (.ixS 1 (.t 6) (.t 8)))), 
  (.mk (some 11) none (.ld true 1 (.t 10))), 
  (.mk (some 5) none (.pure (.mv (.t 11))))]) (.ops [
  (.mk (some 12) none (.pure (.mv (.t 3)))), 
  (.mk (some 13) none (.pure (.mv (.t 5)))), 
  (.mk (some 14) none (.pure (.bin .add (.t 12) (.t 13)))), 
  (.mk (some 3) none (.pure (.mv (.t 14))))]))) (.ops [
  (.mk (some 15) none (.pure (.bin .add (.t 8) (.c (.i .i64 1))))), 
  (.mk (some 8) none (.pure (.mv (.t 15))))]))))))) (.seq (.ops [
  (.mk (some 16) none (.pure (.mv (.t 3)))), 
  (.mk (some 2) none (.pure (.mv (.t 16))))]) .ret)))))
def fn78 : AFn := (AFn.mk 8 [(.t 2)] (.seq (.ops [
  (.mk (some 2) none (.pure (.mv (.c (.i .i64 0)))))]) (.seq (.cond (.c (.b false)) (.seq (.ops [
  (.mk (some 3) none (.pure (.mv (.t 0)))), 
  (.mk (some 4) none (.pure (.conv .u32 (.t 3)))), 
  (.mk (some 5) none (.call 82 [(.t 4)])), 
  (.mk (some 2) none (.pure (.mv (.t 5))))]) .ret) .skip) (.seq (.ops [
  (.mk (some 6) none (.pure (.mv (.t 0)))), 
  (.mk (some 7) none (.call 83 [(.t 6)])), 
  (.mk (some 2) none (.pure (.mv (.t 7))))]) .ret))))
def fn82 : AFn := (AFn.mk 21 [(.t 2)] (.seq (.ops [
  (.mk (some 2) none (.pure (.mv (.c (.i .i64 0)))))]) (.seq (.ops [
  (.mk (some 3) none (.pure (.mv (.t 0)))), 
  (.mk (some 4) none (.pure (.bin .shr (.t 3) (.c (.i .u64 24))))), 
  (.mk (some 5) none (.pure (.ixStr (.c (.s [0, 1, 1, 2, 1, 2, 2, 3, 1, 2, 2, 3, 2, 3, 3, 4, 1, 2, 2, 3, 2, 3, 3, 4, 2, 3, 3, 4, 3, 4, 4, 5, 1, 2, 2, 3, 2, 3, 3, 4, 2, 3, 3, 4, 3, 4, 4, 5, 2, 3, 3, 4, 3, 4, 4, 5, 3, 4, 4, 5, 4, 5, 5, 6, 1, 2, 2, 3, 2, 3, 3, 4, 2, 3, 3, 4, 3, 4, 4, 5, 2, 3, 3, 4, 3, 4, 4, 5, 3, 4, 4, 5, 4, 5, 5, 6, 2, 3, 3, 4, 3, 4, 4, 5, 3, 4, 4, 5, 4, 5, 5, 6, 3, 4, 4, 5, 4, 5, 5, 6, 4, 5, 5, 6, 5, 6, 6, 7, 1, 2, 2, 3, 2, 3, 3, 4, 2, 3, 3, 4, 3, 4, 4, 5, 2, 3, 3, 4, 3, 4, 4, 5, 3, 4, 4, 5, 4, 5, 5, 6, 2, 3, 3, 4, 3, 4, 4, 5, 3, 4, 4, 5, 4, 5, 5, 6, 3, 4, 4, 5, 4, 5, 5, 6, 4, 5, 5, 6, 5, 6, 6, 7, 2, 3, 3, 4, 3, 4, 4, 5, 3, 4, 4, 5, 4, 5, 5, 6, 3, 4, 4, 5, 4, 5, 5, 6, 4, 5, 5, 6, 5, 6, 6, 7, 3, 4, 4, 5, 4, 5, 5, 6, 4, 5, 5, 6, 5, 6, 6, 7, 4, 5, 5, 6, 5, 6, 6, 7, 5, 6, 6, 7, 6, 7, 7, 8])) (.t 4)))), 
  (.mk (some 6) none (.pure (.mv (.t 0)))), 
  (.mk (some 7) none (.pure (.bin .shr (.t 6) (.c (.i .u64 16))))), 
  (.mk (some 8) none (.pure (.bin .and (.t 7) (.c (.i .u32 255))))), 
  (.mk (some 9) none (.pure (.ixStr (.c (.s [0, 1, 1, 2, 1, 2, 2, 3, 1, 2, 2, 3, 2, 3, 3, 4, 1, 2, 2, 3, 2, 3, 3, 4, 2, 3, 3, 4, 3, 4, 4, 5, 1, 2, 2, 3, 2, 3, 3, 4, 2, 3, 3, 4, 3, 4, 4, 5, 2, 3, 3, 4, 3, 4, 4, 5, 3, 4, 4, 5, 4, 5, 5, 6, 1, 2, 2, 3, 2, 3, 3, 4, 2, 3, 3, 4, 3, 4, 4, 5, 2, 3, 3, 4, 3, 4, 4, 5, 3, 4, 4, 5, 4, 5, 5, 6, 2, 3, 3, 4, 3, 4, 4, 5, 3, 4, 4, 5, 4, 5, 5, 6, 3, 4, 4, 5, 4, 5, 5, 6, 4, 5, 5, 6, 5, 6, 6, 7, 1, 2, 2, 3, 2, 3, 3, 4, 2, 3, 3, 4, 3, 4, 4, 5, 2, 3, 3, 4, 3, 4, 4, 5, 3, 4, 4, 5, 4, 5, 5, 6, 2, 3, 3, 4, 3, 4, 4, 5, 3, 4, 4, 5, 4, 5, 5, 6, 3, 4, 4, 5, 4, 5, 5, 6, 4, 5, 5, 6, 5, 6, 6, 7, 2, 3, 3, 4, 3, 4, 4, 5, 3, 4, 4, 5, 4, 5, 5, 6, 3, 4, 4, 5, 4, 5, 5, 6, 4, 5, 5, 6, 5, 6, 6, 7, 3, 4, 4, 5, 4, 5, 5, 6, 4, 5, 5, 6, 5, 6, 6, 7, 4, 5, 5, 6, 5, 6, 6, 7, 5, 6, 6, 7, 6, 7, 7, 8])) (.t 8)))), 
  (.mk (some 10) none (.pure (.bin .add (.t 5) (.t 9)))), 
  (.mk (some 11) none (.pure (.mv (.t 0)))), 
  (.mk (some 12) none (.pure (.bin .shr (.t 11) (.c (.i .u64 8))))), 
  (.mk (some 13) none (.pure (.bin .and (.t 12) (.c (.i .u32 255))))), 
  (.mk (some 14) none (.pure (.ixStr (.c (.s [0, 1, 1, 2, 1, 2, 2, 3, 1, 2, 2, 3, 2, 3, 3, 4, 1, 2, 2, 3, 2, 3, 3, 4, 2, 3, 3, 4, 3, 4, 4, 5, 1, 2, 2, 3, 2, 3, 3, 4, 2, 3, 3, 4, 3, 4, 4, 5, 2, 3, 3, 4, 3, 4, 4, 5, 3, 4, 4, 5, 4, 5, 5, 6, 1, 2, 2, 3, 2, 3, 3, 4, 2, 3, 3, 4, 3, 4, 4, 5, 2, 3, 3, 4, 3, 4, 4, 5, 3, 4, 4, 5, 4, 5, 5, 6, 2, 3, 3, 4, 3, 4, 4, 5, 3, 4, 4, 5, 4, 5, 5, 6, 3, 4, 4, 5, 4, 5, 5, 6, 4, 5, 5, 6, 5, 6, 6, 7, 1, 2, 2, 3, 2, 3, 3, 4, 2, 3, 3, 4, 3, 4, 4, 5, 2, 3, 3, 4, 3, 4, 4, 5, 3, 4, 4, 5, 4, 5, 5, 6, 2, 3, 3, 4, 3, 4, 4, 5, 3, 4, 4, 5, 4, 5, 5, 6, 3, 4, 4, 5, 4, 5, 5, 6, 4, 5, 5, 6, 5, 6, 6, 7, 2, 3, 3, 4, 3, 4, 4, 5, 3, 4, 4, 5, 4, 5, 5, 6, 3, 4, 4, 5, 4, 5, 5, 6, 4, 5, 5, 6, 5, 6, 6, 7, 3, 4, 4, 5, 4, 5, 5, 6, 4, 5, 5, 6, 5, 6, 6, 7, 4, 5, 5, 6, 5, 6, 6, 7, 5, 6, 6, 7, 6, 7, 7, 8])) (.t 13)))), 
  (.mk (some 15) none (.pure (.bin .add (.t 10) (.t 14)))), 
  (.mk (some 16) none (.pure (.mv (.t 0)))), 
  (.mk (some 17) none (.pure (.bin .and (.t 16) (.c (.i .u32 255))))), 
  (.mk (some 18) none (.pure (.ixStr (.c (.s [0, 1, 1, 2, 1, 2, 2, 3, 1, 2, 2, 3, 2, 3, 3, 4, 1, 2, 2, 3, 2, 3, 3, 4, 2, 3, 3, 4, 3, 4, 4, 5, 1, 2, 2, 3, 2, 3, 3, 4, 2, 3, 3, 4, 3, 4, 4, 5, 2, 3, 3, 4, 3, 4, 4, 5, 3, 4, 4, 5, 4, 5, 5, 6, 1, 2, 2, 3, 2, 3, 3, 4, 2, 3, 3, 4, 3, 4, 4, 5, 2, 3, 3, 4, 3, 4, 4, 5, 3, 4, 4, 5, 4, 5, 5, 6, 2, 3, 3, 4, 3, 4, 4, 5, 3, 4, 4, 5, 4, 5, 5, 6, 3, 4, 4, 5, 4, 5, 5, 6, 4, 5, 5, 6, 5, 6, 6, 7, 1, 2, 2, 3, 2, 3, 3, 4, 2, 3, 3, 4, 3, 4, 4, 5, 2, 3, 3, 4, 3, 4, 4, 5, 3, 4, 4, 5, 4, 5, 5, 6, 2, 3, 3, 4, 3, 4, 4, 5, 3, 4, 4, 5, 4, 5, 5, 6, 3, 4, 4, 5, 4, 5, 5, 6, 4, 5, 5, 6, 5, 6, 6, 7, 2, 3, 3, 4, 3, 4, 4, 5, 3, 4, 4, 5, 4, 5, 5, 6, 3, 4, 4, 5, 4, 5, 5, 6, 4, 5, 5, 6, 5, 6, 6, 7, 3, 4, 4, 5, 4, 5, 5, 6, 4, 5, 5, 6, 5, 6, 6, 7, 4, 5, 5, 6, 5, 6, 6, 7, 5, 6, 6, 7, 6, 7, 7, 8])) (.t 17)))), 
  (.mk (some 19) none (.pure (.bin .add (.t 15) (.t 18)))), 
  (.mk (some 20) none (.pure (.conv .i64 (.t 19)))), 
  (.mk (some 2) none (.pure (.mv (.t 20))))]) .ret)))
def fn83 : AFn := (AFn.mk 35 [(.t 2)] (.seq (.ops [
  (.mk (some 2) none (.pure (.mv (.c (.i .i64 0)))))]) (.seq (.ops [
  (.mk (some 3) none (.pure (.mv (.t 0)))), 
  (.mk (some 4) none (.pure (.bin .shr (.t 3) (.c (.i .u64 1))))), 
  (.mk (some 5) none (.pure (.bin .and (.t 4) (.c (.i .u64 6148914691236517205))))), 
  (.mk (some 6) none (.pure (.mv (.t 0)))), 
  (.mk (some 7) none (.pure (.bin .and (.t 6) (.c (.i .u64 6148914691236517205))))), 
  (.mk (some 8) none (.pure (.bin .add (.t 5) (.t 7)))), 
  (.mk (some 0) none (.pure (.mv (.t 8))))]) (.seq (.ops [
  (.mk (some 9) none (.pure (.mv (.t 0)))), 
  (.mk (some 10) none (.pure (.bin .shr (.t 9) (.c (.i .u64 2))))), 
  (.mk (some 11) none (.pure (.bin .and (.t 10) (.c (.i .u64 3689348814741910323))))), 
  (.mk (some 12) none (.pure (.mv (.t 0)))), 
  (.mk (some 13) none (.pure (.bin .and (.t 12) (.c (.i .u64 3689348814741910323))))), 
  (.mk (some 14) none (.pure (.bin .add (.t 11) (.t 13)))), 
  (.mk (some 0) none (.pure (.mv (.t 14))))]) (.seq (.ops [
  (.mk (some 15) none (.pure (.mv (.t 0)))), 
  (.mk (some 16) none (.pure (.bin .shr (.t 15) (.c (.i .u64 4))))), 
  (.mk (some 17) none (.pure (.mv (.t 0)))), 
  (.mk (some 18) none (.pure (.bin .add (.t 16) (.t 17)))), 
  (.mk (some 19) none (.pure (.bin .and (.t 18) (.c (.i .u64 1085102592571150095))))), 
  (.mk (some 0) none (.pure (.mv (.t 19))))]) (.seq (.ops [
  (.mk (some 20) none (.pure (.mv (.t 0)))), 
  (.mk (some 21) none (.pure (.mv (.t 0)))), 
  (.mk (some 22) none (.pure (.bin .shr (.t 21) (.c (.i .u64 8))))), 
  (.mk (some 23) none (.pure (.bin .add (.t 20) (.t 22)))), 
  (.mk (some 0) none (.pure (.mv (.t 23))))]) (.seq (.ops [
  (.mk (some 24) none (.pure (.mv (.t 0)))), 
  (.mk (some 25) none (.pure (.mv (.t 0)))), 
  (.mk (some 26) none (.pure (.bin .shr (.t 25) (.c (.i .u64 16))))), 
  (.mk (some 27) none (.pure (.bin .add (.t 24) (.t 26)))), 
  (.mk (some 0) none (.pure (.mv (.t 27))))]) (.seq (.ops [
  (.mk (some 28) none (.pure (.mv (.t 0)))), 
  (.mk (some 29) none (.pure (.mv (.t 0)))), 
  (.mk (some 30) none (.pure (.bin .shr (.t 29) (.c (.i .u64 32))))), 
  (.mk (some 31) none (.pure (.bin .add (.t 28) (.t 30)))), 
  (.mk (some 0) none (.pure (.mv (.t 31))))]) (.seq (.ops [
  (.mk (some 32) none (.pure (.mv (.t 0)))), 
  (.mk (some 33) none (.pure (.conv .i64 (.t 32)))), 
  (.mk (some 34) none (.pure (.bin .and (.t 33) (.c (.i .i64 127))))), 
  (.mk (some 2) none (.pure (.mv (.t 34))))]) .ret)))))))))
def fn99 : AFn := (AFn.mk 28 [(.t 4)] (.seq (.ops [
  (.mk (some 2) none (.bx 71 1 (.t 0))), 
  (.mk (some 4) none (.pure (.mv (.c (.i .i64 0)))))]) (.seq (.ops [
  (.mk (some 5) none (.pure (.mv (.c (.i .i64 0)))))]) (.seq (.seq (.ops [
  (.mk (some 8) none (.pure (.mv (.t 1)))), 
  (.mk (some 9) none (.pure (.len false (.t 8)))), 
  (.mk (some 10) none (.pure (.mv (.c (.i .i64 0)))))]) (.block 0 (.loop (.seq (.ops [
  (.mk (some 11) none (.pure (.bin .lss (.t 10) (.t 9))))]) (.seq (.cond (.t 11) .skip (.exit 0)) (.seq (.block 1 (.seq (.ops [
  (.mk (some 12) none (.pure (.mv (.t 10)))), 
  (.mk (some 13) none (.pure (.ixS 1 (.t 8) (.t 10)))), 
  (.mk (some 14) none (.ld true 1 (.t 13))), 
  (.mk (some 6) none (.pure (.mv (.t 12)))), 
  (.mk (some 7) none (.pure (.mv (.t 14))))]) (.seq (.ops [
  (.mk (some 15) none (.pure (.faddr 0 (.t 2)))), 
  (.mk (some 16) none (.ld true 1 (.t 15))), 
  (.mk (some 17) none (.pure (.mv (.t 6)))), 
  (.mk (some 18) none (.pure (.ixS 1 (.t 16) (.t 17)))), 
  (.mk (some 19) none (.ld true 1 (.t 18))), 
  (.mk (some 20) none (.pure (.bin .eql (.t 19) (.c (.i .i64 0)))))]) (.cond (.t 20) (.ops [
  (.mk (some 21) none (.pure (.mv (.t 5)))), 
  (.mk (some 22) none (.pure (.mv (.t 7)))), 
  (.mk (some 23) none (.call 101 [(.t 22)])), 
  (.mk (some 24) none (.pure (.bin .add (.t 21) (.t 23)))), 
  (.mk (some 5) none (.pure (.mv (.t 24))))]) .skip)))) (.ops [
  (.mk (some 25) none (.pure (.bin .add (.t 10) (.c (.i .i64 1))))), 
  (.mk (some 10) none (.pure (.mv (.t 25))))]))))))) (.seq (.ops [
  (.mk (some 26) none (.pure (.mv (.t 5)))), 
  (.mk (some 27) none (.call 102 [(.t 26)])), 
  (.mk (some 4) none (.pure (.mv (.t 27))))]) .ret)))))
def fn100 : AFn := (AFn.mk 28 [] (.seq (.ops [
  (.mk (some 4) none (.bx 71 1 (.t 0)))]) (.seq (.ops [
  (.mk (some 10) none (.pure (.mv (.t 1)))), 
  (.mk (some 11) none (.pure (.len false (.t 10)))), 
  (.mk (some 12) none (.pure (.mv (.c (.i .i64 0)))))]) (.block 0 (.loop (.seq (.ops [
  (.mk (some 13) none (.pure (.bin .lss (.t 12) (.t 11))))]) (.seq (.cond (.t 13) .skip (.exit 0)) (.seq (.block 1 (.seq (.ops [
  (.mk (some 14) none (.pure (.mv (.t 12)))), 
  (.mk (some 15) none (.pure (.ixS 1 (.t 10) (.t 12)))), 
  (.mk (some 16) none (.ld true 1 (.t 15))), 
  (.mk (some 8) none (.pure (.mv (.t 14)))), 
  (.mk (some 9) none (.pure (.mv (.t 16))))]) (.seq (.ops [
  (.mk (some 17) none (.pure (.mv (.t 9)))), 
  (.mk (some 18) none (.pure (.mv (.t 3)))), 
  (.mk (some 19) none (.pure (.bin .neq (.t 17) (.t 18))))]) (.cond (.t 19) (.ops [
  (.mk (some 20) none (.pure (.faddr 0 (.t 4)))), 
  (.mk (some 21) none (.ld true 1 (.t 20))), 
  (.mk (some 22) none (.pure (.mv (.t 8)))), 
  (.mk (some 23) none (.pure (.ixS 1 (.t 21) (.t 22)))), 
  (.mk (some 24) none (.ld true 1 (.t 23))), 
  (.mk (some 25) none (.pure (.bin .add (.t 24) (.c (.i .i64 1))))), 
  (.mk (some 26) none (.pure (.ixS 1 (.t 21) (.t 22)))), 
  (.mk none none (.st 1 (.t 26) (.t 25)))]) .skip)))) (.ops [
  (.mk (some 27) none (.pure (.bin .add (.t 12) (.c (.i .i64 1))))), 
  (.mk (some 12) none (.pure (.mv (.t 27))))])))))))))
def fn101 : AFn := (AFn.mk 6 [(.t 2)] (.seq (.ops [
  (.mk (some 2) none (.pure (.mv (.c (.i .i64 0)))))]) (.seq (.ops [
  (.mk (some 3) none (.pure (.mv (.t 0)))), 
  (.mk (some 4) none (.pure (.bin .mul (.c (.i .i64 2)) (.t 3)))), 
  (.mk (some 5) none (.pure (.bin .sub (.t 4) (.c (.i .i64 1))))), 
  (.mk (some 2) none (.pure (.mv (.t 5))))]) .ret)))
def fn102 : AFn := (AFn.mk 5 [(.t 2)] (.seq (.ops [
  (.mk (some 2) none (.pure (.mv (.c (.i .i64 0)))))]) (.seq (.seq (.ops [
  (.mk (some 3) none (.pure (.mv (.t 0)))), 
  (.mk (some 4) none (.pure (.bin .gtr (.t 3) (.c (.i .i64 0)))))]) (.cond (.t 4) (.seq (.ops [
  (.mk (some 2) none (.pure (.mv (.c (.i .i64 1)))))]) .ret) .skip)) (.seq (.ops [
  (.mk (some 2) none (.pure (.mv (.c (.i .i64 0)))))]) .ret))))
def fn103 : AFn := (AFn.mk 29 [(.t 4)] (.seq (.ops [
  (.mk (some 2) none (.bx 74 1 (.t 0))), 
  (.mk (some 4) none (.pure (.mv (.c (.i .i64 0)))))]) (.seq (.ops [
  (.mk (some 5) none (.pure (.mv (.c (.i .i64 0)))))]) (.seq (.seq (.ops [
  (.mk (some 8) none (.pure (.mv (.t 1)))), 
  (.mk (some 9) none (.pure (.len false (.t 8)))), 
  (.mk (some 10) none (.pure (.mv (.c (.i .i64 0)))))]) (.block 0 (.loop (.seq (.ops [
  (.mk (some 11) none (.pure (.bin .lss (.t 10) (.t 9))))]) (.seq (.cond (.t 11) .skip (.exit 0)) (.seq (.block 1 (.seq (.ops [
  (.mk (some 12) none (.pure (.mv (.t 10)))), 
  (.mk (some 13) none (.pure (.ixS 1 (.t 8) (.t 10)))), 
  (.mk (some 14) none (.ld true 1 (.t 13))), 
  (.mk (some 6) none (.pure (.mv (.t 12)))), 
  (.mk (some 7) none (.pure (.mv (.t 14))))]) (.ops [
  (.mk (some 15) none (.pure (.mv (.t 5)))), 
  (.mk (some 16) none (.pure (.mv (.t 7)))), 
  (.mk (some 17) none (.pure (.faddr 0 (.t 2)))), 
  (.mk (some 18) none (.ld true 1 (.t 17))), 
  (.mk (some 19) none (.pure (.mv (.t 6)))), 
  (.mk (some 20) none (.pure (.ixS 1 (.t 18) (.t 19)))), 
  (.mk (some 21) none (.ld true 1 (.t 20))), 
  (.mk (some 22) none (.pure (.bin .mul (.t 16) (.t 21)))), 
  (.mk (some 23) none (.pure (.bin .add (.t 15) (.t 22)))), 
  (.mk (some 5) none (.pure (.mv (.t 23))))]))) (.ops [
  (.mk (some 24) none (.pure (.bin .add (.t 10) (.c (.i .i64 1))))), 
  (.mk (some 10) none (.pure (.mv (.t 24))))]))))))) (.seq (.seq (.ops [
  (.mk (some 25) none (.pure (.mv (.t 5)))), 
  (.mk (some 26) none (.pure (.mv (.t 1)))), 
  (.mk (some 27) none (.pure (.len false (.t 26)))), 
  (.mk (some 28) none (.pure (.bin .geq (.t 25) (.t 27))))]) (.cond (.t 28) (.seq (.ops [
  (.mk (some 4) none (.pure (.mv (.c (.i .i64 1)))))]) .ret) .skip)) (.seq (.ops [
  (.mk (some 4) none (.pure (.mv (.c (.i .i64 0)))))]) .ret))))))
def fn104 : AFn := (AFn.mk 32 [] (.seq (.ops [
  (.mk (some 4) none (.bx 74 1 (.t 0)))]) (.seq (.seq (.ops [
  (.mk (some 10) none (.pure (.mv (.t 2)))), 
  (.mk (some 11) none (.pure (.mv (.t 3)))), 
  (.mk (some 12) none (.pure (.bin .eql (.t 10) (.t 11))))]) (.cond (.t 12) .ret .skip)) (.seq (.ops [
  (.mk (some 13) none (.pure (.mv (.t 1)))), 
  (.mk (some 14) none (.pure (.len false (.t 13)))), 
  (.mk (some 15) none (.pure (.mv (.c (.i .i64 0)))))]) (.block 0 (.loop (.seq (.ops [
  (.mk (some 16) none (.pure (.bin .lss (.t 15) (.t 14))))]) (.seq (.cond (.t 16) .skip (.exit 0)) (.seq (.block 1 (.seq (.ops [
  (.mk (some 17) none (.pure (.mv (.t 15)))), 
  (.mk (some 18) none (.pure (.ixS 1 (.t 13) (.t 15)))), 
  (.mk (some 19) none (.ld true 1 (.t 18))), 
  (.mk (some 8) none (.pure (.mv (.t 17)))), 
  (.mk (some 9) none (.pure (.mv (.t 19))))]) (.seq (.ops [
  (.mk (some 20) none (.pure (.mv (.t 9)))), 
  (.mk (some 21) none (.pure (.bin .eql (.t 20) (.c (.i .i64 1)))))]) (.cond (.t 21) (.ops [
  (.mk (some 22) none (.pure (.faddr 0 (.t 4)))), 
  (.mk (some 23) none (.ld true 1 (.t 22))), 
  (.mk (some 24) none (.pure (.mv (.t 8)))), 
  (.mk (some 25) none (.pure (.ixS 1 (.t 23) (.t 24)))), 
  (.mk (some 26) none (.ld true 1 (.t 25))), 
  (.mk (some 27) none (.pure (.mv (.t 3)))), 
  (.mk (some 28) none (.pure (.bin .mul (.c (.i .i64 2)) (.t 27)))), 
  (.mk (some 29) none (.pure (.bin .mul (.t 26) (.t 28)))), 
  (.mk (some 30) none (.pure (.ixS 1 (.t 23) (.t 24)))), 
  (.mk none none (.st 1 (.t 30) (.t 29)))]) .skip)))) (.ops [
  (.mk (some 31) none (.pure (.bin .add (.t 15) (.c (.i .i64 1))))), 
  (.mk (some 15) none (.pure (.mv (.t 31))))]))))))))))
def fn105 : AFn := (AFn.mk 49 [(.t 4)] (.seq (.ops [
  (.mk (some 2) none (.bx 76 1 (.t 0))), 
  (.mk (some 4) none (.pure (.mv (.c (.i .i64 0)))))]) (.seq (.ops [
  (.mk (some 5) none (.al 124 [(.i .i64 0), (.i .i64 0), (.i .i64 0), (.i .i64 0), (.i .i64 0), (.i .i64 0), (.i .i64 0), (.i .i64 0), (.i .i64 0), (.i .i64 0), (.i .i64 0), (.i .i64 0), (.i .i64 0), (.i .i64 0), (.i .i64 0), (.i .i64 0), (.i .i64 0), (.i .i64 0), (.i .i64 0), (.i .i64 0), (.i .i64 0), (.i .i64 0), (.i .i64 0), (.i .i64 0), (.i .i64 0), (.i .i64 0), (.i .i64 0), (.i .i64 0), (.i .i64 0), (.i .i64 0), (.i .i64 0), (.i .i64 0), (.i .i64 0), (.i .i64 0), (.i .i64 0), (.i .i64 0), (.i .i64 0), (.i .i64 0), (.i .i64 0), (.i .i64 0), (.i .i64 0), (.i .i64 0), (.i .i64 0), (.i .i64 0), (.i .i64 0), (.i .i64 0), (.i .i64 0), (.i .i64 0), (.i .i64 0), (.i .i64 0), (.i .i64 0), (.i .i64 0), (.i .i64 0), (.i .i64 0), (.i .i64 0), (.i .i64 0), (.i .i64 0), (.i .i64 0), (.i .i64 0), (.i .i64 0), (.i .i64 0), (.i .i64 0), (.i .i64 0), (.i .i64 0), (.i .i64 0), (.i .i64 0), (.i .i64 0), (.i .i64 0), (.i .i64 0), (.i .i64 0), (.i .i64 0), (.i .i64 0), (.i .i64 0), (.i .i64 0), (.i .i64 0), (.i .i64 0), (.i .i64 0), (.i .i64 0), (.i .i64 0), (.i .i64 0), (.i .i64 0), (.i .i64 0), (.i .i64 0), (.i .i64 0), (.i .i64 0), (.i .i64 0), (.i .i64 0), (.i .i64 0), (.i .i64 0), (.i .i64 0), (.i .i64 0), (.i .i64 0), (.i .i64 0), (.i .i64 0), (.i .i64 0), (.i .i64 0), (.i .i64 0), (.i .i64 0), (.i .i64 0), (.i .i64 0), (.i .i64 0), (.i .i64 0), (.i .i64 0), (.i .i64 0), (.i .i64 0), (.i .i64 0), (.i .i64 0), (.i .i64 0), (.i .i64 0), (.i .i64 0), (.i .i64 0), (.i .i64 0), (.i .i64 0), (.i .i64 0), (.i .i64 0), (.i .i64 0), (.i .i64 0), (.i .i64 0), (.i .i64 0), (.i .i64 0), (.i .i64 0), (.i .i64 0), (.i .i64 0), (.i .i64 0), (.i .i64 0), (.i .i64 0), (.i .i64 0), (.i .i64 0), (.i .i64 0), (.i .i64 0), (.i .i64 0), (.i .i64 0), (.i .i64 0), (.i .i64 0), (.i .i64 0), (.i .i64 0), (.i .i64 0), (.i .i64 0), (.i .i64 0), (.i .i64 0), (.i .i64 0), (.i .i64 0), (.i .i64 0), (.i .i64 0), (.i .i64 0), (.i .i64 0), (.i .i64 0), (.i .i64 0), (.i .i64 0), (.i .i64 0), (.i .i64 0), (.i .i64 0), (.i .i64 0), (.i .i64 0), (.i .i64 0), (.i .i64 0), (.i .i64 0), (.i .i64 0), (.i .i64 0), (.i .i64 0), (.i .i64 0), (.i .i64 0), (.i .i64 0), (.i .i64 0), (.i .i64 0), (.i .i64 0), (.i .i64 0), (.i .i64 0), (.i .i64 0), (.i .i64 0), (.i .i64 0), (.i .i64 0), (.i .i64 0), (.i .i64 0), (.i .i64 0), (.i .i64 0), (.i .i64 0), (.i .i64 0), (.i .i64 0), (.i .i64 0), (.i .i64 0), (.i .i64 0), (.i .i64 0), (.i .i64 0), (.i .i64 0), (.i .i64 0), (.i .i64 0), (.i .i64 0), (.i .i64 0), (.i .i64 0), (.i .i64 0), (.i .i64 0), (.i .i64 0), (.i .i64 0), (.i .i64 0), (.i .i64 0), (.i .i64 0), (.i .i64 0), (.i .i64 0), (.i .i64 0)]))]) (.seq (.seq (.ops [
  (.mk (some 11) none (.pure (.mv (.t 1)))), 
  (.mk (some 12) none (.pure (.len false (.t 11)))), 
  (.mk (some 13) none (.pure (.mv (.c (.i .i64 0)))))]) (.block 0 (.loop (.seq (.ops [
  (.mk (some 14) none (.pure (.bin .lss (.t 13) (.t 12))))]) (.seq (.cond (.t 14) .skip (.exit 0)) (.seq (.block 1 (.seq (.ops [
  (.mk (some 15) none (.pure (.mv (.t 13)))), 
  (.mk (some 16) none (.pure (.ixS 1 (.t 11) (.t 13)))), 
  (.mk (some 17) none (.ld true 1 (.t 16))), 
  (.mk (some 6) none (.pure (.mv (.t 15)))), 
  (.mk (some 7) none (.pure (.mv (.t 17))))]) (.any [(
  (.mk (some 18) none (.pure (.faddr 0 (.t 2)))), false), (
  (.mk (some 19) none (.pure (.faddr 0 (.t 18)))), false), (
  (.mk (some 20) none (.ld true 1 (.t 19))), false), (
  (.mk (some 21) none (.pure (.mv (.t 6)))), false), (
  (.mk (some 22) none (.pure (.ixS 1 (.t 20) (.t 21)))), false), (
  (.mk (some 23) none (.ld true 1 (.t 22))), false), (
  (.mk (some 24) none (.pure (.ixA 200 1 (.t 5) (.t 23)))), false), (
  (.mk (some 25) none (.ld true 1 (.t 24))), false), (
  (.mk (some 26) none (.pure (.mv (.t 7)))), false), (
  (.mk (some 27) none (.call 101 [(.t 26)])), false), (
  (.mk (some 28) none (.pure (.bin .add (.t 25) (.t 27)))), false), (
  (.mk (some 29) none (.pure (.ixA 200 1 (.t 5) (.t 23)))), false), (
  (.mk none none (.st 1 (.t 29) (.t 28))), false)]))) (.ops [
  (.mk (some 30) none (.pure (.bin .add (.t 13) (.c (.i .i64 1))))), 
  (.mk (some 13) none (.pure (.mv (.t 30))))]))))))) (.seq (.ops [
  (.mk (some 8) none (.pure (.mv (.c (.i .i64 0)))))]) (.seq (.seq (.ops [
  (.mk (some 31) none (.ld false 200 (.t 5))), 
  (.mk (some 32) none (.pure (.mv (.c (.i .i64 0)))))]) (.block 2 (.loop (.seq (.ops [
  (.mk (some 33) none (.pure (.bin .lss (.t 32) (.c (.i .i64 200)))))]) (.seq (.cond (.t 33) .skip (.exit 2)) (.seq (.block 3 (.seq (.ops [
  (.mk (some 34) none (.pure (.ixV 200 1 true (.t 31) (.t 32)))), 
  (.mk (some 10) none (.pure (.mv (.t 34))))]) (.seq (.ops [
  (.mk (some 35) none (.pure (.mv (.t 8)))), 
  (.mk (some 36) none (.pure (.bin .mul (.c (.i .i64 2)) (.t 35)))), 
  (.mk (some 37) none (.pure (.mv (.t 10)))), 
  (.mk (some 38) none (.pure (.bin .add (.t 36) (.t 37)))), 
  (.mk (some 8) none (.pure (.mv (.t 38))))]) (.seq (.ops [
  (.mk (some 39) none (.pure (.mv (.t 8)))), 
  (.mk (some 40) none (.pure (.mv (.t 8)))), 
  (.mk (some 41) none (.pure (.neg (.t 40)))), 
  (.mk (some 42) none (.pure (.mx true (.t 39) (.t 41)))), 
  (.mk (some 43) none (.pure (.mv (.t 1)))), 
  (.mk (some 44) none (.pure (.len false (.t 43)))), 
  (.mk (some 45) none (.pure (.bin .gtr (.t 42) (.t 44))))]) (.cond (.t 45) (.exit 2) .skip))))) (.ops [
  (.mk (some 46) none (.pure (.bin .add (.t 32) (.c (.i .i64 1))))), 
  (.mk (some 32) none (.pure (.mv (.t 46))))]))))))) (.seq (.ops [
  (.mk (some 47) none (.pure (.mv (.t 8)))), 
  (.mk (some 48) none (.call 102 [(.t 47)])), 
  (.mk (some 4) none (.pure (.mv (.t 48))))]) .ret)))))))
def F (f : Nat) : Option AFn := cond (Nat.blt f 59) (cond (Nat.blt f 31) (cond (Nat.blt f 23) (cond (Nat.blt f 16) (cond (Nat.blt f 15) (cond (Nat.beq f 4) (some fn4) none) (cond (Nat.beq f 15) (some fn15) none)) (cond (Nat.blt f 20) (cond (Nat.beq f 16) (some fn16) none) (cond (Nat.beq f 20) (some fn20) none))) (cond (Nat.blt f 25) (cond (Nat.blt f 24) (cond (Nat.beq f 23) (some fn23) none) (cond (Nat.beq f 24) (some fn24) none)) (cond (Nat.blt f 26) (cond (Nat.beq f 25) (some fn25) none) (cond (Nat.blt f 29) (cond (Nat.beq f 26) (some fn26) none) (cond (Nat.beq f 29) (some fn29) none))))) (cond (Nat.blt f 52) (cond (Nat.blt f 38) (cond (Nat.blt f 35) (cond (Nat.beq f 31) (some fn31) none) (cond (Nat.beq f 35) (some fn35) none)) (cond (Nat.blt f 49) (cond (Nat.beq f 38) (some fn38) none) (cond (Nat.blt f 50) (cond (Nat.beq f 49) (some fn49) none) (cond (Nat.beq f 50) (some fn50) none)))) (cond (Nat.blt f 54) (cond (Nat.blt f 53) (cond (Nat.beq f 52) (some fn52) none) (cond (Nat.beq f 53) (some fn53) none)) (cond (Nat.blt f 55) (cond (Nat.beq f 54) (some fn54) none) (cond (Nat.blt f 58) (cond (Nat.beq f 55) (some fn55) none) (cond (Nat.beq f 58) (some fn58) none)))))) (cond (Nat.blt f 78) (cond (Nat.blt f 64) (cond (Nat.blt f 62) (cond (Nat.blt f 61) (cond (Nat.beq f 59) (some fn59) none) (cond (Nat.beq f 61) (some fn61) none)) (cond (Nat.blt f 63) (cond (Nat.beq f 62) (some fn62) none) (cond (Nat.beq f 63) (some fn63) none))) (cond (Nat.blt f 68) (cond (Nat.blt f 65) (cond (Nat.beq f 64) (some fn64) none) (cond (Nat.beq f 65) (some fn65) none)) (cond (Nat.blt f 69) (cond (Nat.beq f 68) (some fn68) none) (cond (Nat.blt f 76) (cond (Nat.beq f 69) (some fn69) none) (cond (Nat.beq f 76) (some fn76) none))))) (cond (Nat.blt f 101) (cond (Nat.blt f 83) (cond (Nat.blt f 82) (cond (Nat.beq f 78) (some fn78) none) (cond (Nat.beq f 82) (some fn82) none)) (cond (Nat.blt f 99) (cond (Nat.beq f 83) (some fn83) none) (cond (Nat.blt f 100) (cond (Nat.beq f 99) (some fn99) none) (cond (Nat.beq f 100) (some fn100) none)))) (cond (Nat.blt f 103) (cond (Nat.blt f 102) (cond (Nat.beq f 101) (some fn101) none) (cond (Nat.beq f 102) (some fn102) none)) (cond (Nat.blt f 104) (cond (Nat.beq f 103) (some fn103) none) (cond (Nat.blt f 105) (cond (Nat.beq f 104) (some fn104) none) (cond (Nat.beq f 105) (some fn105) none))))))
end Go.Proofs.Ytageakoepjkkbaa.T
