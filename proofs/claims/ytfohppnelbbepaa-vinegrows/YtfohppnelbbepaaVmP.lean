/- The functions that the law reaches, as the small machine takes them. -/
import Derived.Test.YtfohppnelbbepaaVmA
import Derived.KernelRfl
open Go.Vm
namespace Go.Proofs.Ytfohppnelbbepaa.T
open Go
def fn3 : AFn := (AFn.mk 89 [(.t 6)] (.seq (.ops [
  (.mk (some 6) none (.pure (.mv (.c (.b false)))))]) (.seq (.seq (.ops [
  (.mk (some 15) none (.pure (.mv (.t 0)))), 
  (.mk (some 16) none (.pure (.mv (.t 1)))), 
  (.mk (some 17) none (.call 15 [(.t 15), (.t 16)])), 
  (.mk (some 18) none (.pure (.not (.t 17))))]) (.cond (.t 18) (.seq (.ops [
  (.mk (some 19) none (.call 16 [])), 
  (.mk (some 6) none (.pure (.mv (.t 19))))]) .ret) .skip)) (.seq (.ops [
  (.mk (some 21) none (.pure (.mv (.t 0)))), 
  (.mk (some 22) none (.pure (.mv (.t 1)))), 
  (.mk (some 23) none (.pure (.mv (.t 2)))), 
  (.mk (some 24) none (.call 17 [(.t 21), (.t 22), (.t 23)])), 
  (.mk (some 20) none (.pure (.mv (.t 24)))), 
  (.mk (some 25) none (.pure (.ext 0 (.t 20)))), 
  (.mk (some 26) none (.pure (.ext 1 (.t 20)))), 
  (.mk (some 7) none (.pure (.mv (.t 25)))), 
  (.mk (some 8) none (.pure (.mv (.t 26))))]) (.seq (.ops [
  (.mk (some 28) none (.pure (.mv (.t 0)))), 
  (.mk (some 29) none (.pure (.mv (.t 1)))), 
  (.mk (some 30) none (.pure (.mv (.t 2)))), 
  (.mk (some 31) none (.call 18 [(.t 28), (.t 29), (.t 30)])), 
  (.mk (some 27) none (.pure (.mv (.t 31)))), 
  (.mk (some 32) none (.pure (.ext 0 (.t 27)))), 
  (.mk (some 33) none (.pure (.ext 1 (.t 27)))), 
  (.mk (some 9) none (.pure (.mv (.t 32)))), 
  (.mk (some 10) none (.pure (.mv (.t 33))))]) (.seq (.seq (.ops [
  (.mk (some 34) none (.pure (.mv (.t 7)))), 
  (.mk (some 35) none (.pure (.mv (.t 9)))), 
  (.mk (some 36) none (.pure (.sbin .neq (.t 34) (.t 35)))), 
  (.mk (some 37) none (.pure (.mv (.t 36)))), 
  (.mk (some 38) (some (37, false)) (.pure (.mv (.t 8)))), 
  (.mk (some 39) (some (37, false)) (.pure (.mv (.t 10)))), 
  (.mk (some 40) (some (37, false)) (.pure (.bin .neq (.t 38) (.t 39)))), 
  (.mk (some 41) none (.pure (.pick (.t 37) (.c (.b true)) (.t 40))))]) (.cond (.t 41) (.seq (.ops [
  (.mk (some 6) none (.pure (.mv (.c (.b false)))))]) .ret) .skip)) (.seq (.ops [
  (.mk (some 43) none (.pure (.mv (.t 0)))), 
  (.mk (some 44) none (.pure (.mv (.t 1)))), 
  (.mk (some 45) none (.pure (.mv (.t 2)))), 
  (.mk (some 46) none (.call 19 [(.t 43), (.t 44), (.t 45)])), 
  (.mk (some 42) none (.pure (.mv (.t 46)))), 
  (.mk (some 47) none (.pure (.ext 0 (.t 42)))), 
  (.mk (some 48) none (.pure (.ext 1 (.t 42)))), 
  (.mk (some 11) none (.pure (.mv (.t 47)))), 
  (.mk (some 8) none (.pure (.mv (.t 48))))]) (.seq (.ops [
  (.mk (some 50) none (.pure (.mv (.t 0)))), 
  (.mk (some 51) none (.pure (.mv (.t 1)))), 
  (.mk (some 52) none (.pure (.mv (.t 2)))), 
  (.mk (some 53) none (.call 20 [(.t 50), (.t 51), (.t 52)])), 
  (.mk (some 49) none (.pure (.mv (.t 53)))), 
  (.mk (some 54) none (.pure (.ext 0 (.t 49)))), 
  (.mk (some 55) none (.pure (.ext 1 (.t 49)))), 
  (.mk (some 12) none (.pure (.mv (.t 54)))), 
  (.mk (some 10) none (.pure (.mv (.t 55))))]) (.seq (.seq (.ops [
  (.mk (some 56) none (.pure (.mv (.t 11)))), 
  (.mk (some 57) none (.pure (.mv (.t 12)))), 
  (.mk (some 58) none (.pure (.bin .neq (.t 56) (.t 57)))), 
  (.mk (some 59) none (.pure (.mv (.t 58)))), 
  (.mk (some 60) (some (59, false)) (.pure (.mv (.t 8)))), 
  (.mk (some 61) (some (59, false)) (.pure (.mv (.t 10)))), 
  (.mk (some 62) (some (59, false)) (.pure (.bin .neq (.t 60) (.t 61)))), 
  (.mk (some 63) none (.pure (.pick (.t 59) (.c (.b true)) (.t 62))))]) (.cond (.t 63) (.seq (.ops [
  (.mk (some 6) none (.pure (.mv (.c (.b false)))))]) .ret) .skip)) (.seq (.ops [
  (.mk (some 65) none (.pure (.mv (.t 0)))), 
  (.mk (some 66) none (.pure (.mv (.t 1)))), 
  (.mk (some 67) none (.pure (.mv (.t 2)))), 
  (.mk (some 68) none (.call 21 [(.t 65), (.t 66), (.t 67)])), 
  (.mk (some 64) none (.pure (.mv (.t 68)))), 
  (.mk (some 69) none (.pure (.ext 0 (.t 64)))), 
  (.mk (some 70) none (.pure (.ext 1 (.t 64)))), 
  (.mk (some 13) none (.pure (.mv (.t 69)))), 
  (.mk (some 8) none (.pure (.mv (.t 70))))]) (.seq (.ops [
  (.mk (some 72) none (.pure (.mv (.t 0)))), 
  (.mk (some 73) none (.pure (.mv (.t 1)))), 
  (.mk (some 74) none (.pure (.mv (.t 2)))), 
  (.mk (some 75) none (.call 22 [(.t 72), (.t 73), (.t 74)])), 
  (.mk (some 71) none (.pure (.mv (.t 75)))), 
  (.mk (some 76) none (.pure (.ext 0 (.t 71)))), 
  (.mk (some 77) none (.pure (.ext 1 (.t 71)))), 
  (.mk (some 14) none (.pure (.mv (.t 76)))), 
  (.mk (some 10) none (.pure (.mv (.t 77))))]) (.seq (.ops [
  (.mk (some 78) none (.pure (.mv (.t 13)))), 
  (.mk (some 79) none (.pure (.mv (.t 14)))), 
  (.mk (some 80) none (.call 23 [(.t 78), (.t 79)])), 
  (.mk (some 81) none (.pure (.mv (.t 80)))), 
  (.mk (some 82) (some (81, true)) (.pure (.mv (.t 8)))), 
  (.mk (some 83) (some (81, true)) (.pure (.mv (.t 10)))), 
  (.mk (some 84) (some (81, true)) (.pure (.bin .eql (.t 82) (.t 83)))), 
  (.mk (some 85) none (.pure (.pick (.t 81) (.t 84) (.c (.b false))))), 
  (.mk (some 86) none (.pure (.mv (.t 85)))), 
  (.mk (some 87) (some (86, true)) (.call 16 [])), 
  (.mk (some 88) none (.pure (.pick (.t 86) (.t 87) (.c (.b false))))), 
  (.mk (some 6) none (.pure (.mv (.t 88))))]) .ret))))))))))))
def fn15 : AFn := (AFn.mk 25 [(.t 4)] (.seq (.ops [
  (.mk (some 4) none (.pure (.mv (.c (.b false)))))]) (.seq (.seq (.ops [
  (.mk (some 5) none (.pure (.mv (.c (.i .i64 0)))))]) (.block 0 (.loop (.seq (.seq (.ops [
  (.mk (some 6) none (.pure (.mv (.t 5)))), 
  (.mk (some 7) none (.pure (.mv (.t 0)))), 
  (.mk (some 8) none (.pure (.len false (.t 7)))), 
  (.mk (some 9) none (.pure (.bin .lss (.t 6) (.t 8))))]) (.cond (.t 9) .skip (.exit 0))) (.seq (.block 1 (.seq (.ops [
  (.mk (some 12) none (.pure (.mv (.t 5)))), 
  (.mk (some 13) none (.pure (.bin .geq (.t 12) (.c (.i .i64 20))))), 
  (.mk (some 14) none (.pure (.mv (.t 13)))), 
  (.mk (some 15) (some (14, false)) (.pure (.mv (.t 0)))), 
  (.mk (some 16) (some (14, false)) (.pure (.mv (.t 5)))), 
  (.mk (some 17) (some (14, false)) (.pure (.ixS 1 (.t 15) (.t 16)))), 
  (.mk (some 18) (some (14, false)) (.ld true 1 (.t 17))), 
  (.mk (some 19) (some (14, false)) (.pure (.len true (.t 18)))), 
  (.mk (some 20) (some (14, false)) (.pure (.bin .gtr (.t 19) (.c (.i .i64 50))))), 
  (.mk (some 21) none (.pure (.pick (.t 14) (.c (.b true)) (.t 20))))]) (.cond (.t 21) (.seq (.ops [
  (.mk (some 4) none (.pure (.mv (.c (.b false)))))]) .ret) .skip))) (.ops [
  (.mk (some 10) none (.pure (.mv (.t 5)))), 
  (.mk (some 11) none (.pure (.bin .add (.t 10) (.c (.i .i64 1))))), 
  (.mk (some 5) none (.pure (.mv (.t 11))))])))))) (.seq (.ops [
  (.mk (some 22) none (.pure (.mv (.t 1)))), 
  (.mk (some 23) none (.pure (.len true (.t 22)))), 
  (.mk (some 24) none (.pure (.bin .leq (.t 23) (.c (.i .i64 100))))), 
  (.mk (some 4) none (.pure (.mv (.t 24))))]) .ret))))
def fn16 : AFn := (AFn.mk 66 [(.t 0)] (.seq (.ops [
  (.mk (some 0) none (.pure (.mv (.c (.b false)))))]) (.seq (.ops [
  (.mk (some 11) none (.bsl 9 1 [(.s [])] 2 [((0, 1), (.c (.s [97, 98]))), ((1, 1), (.c (.s [97])))])), 
  (.mk (some 12) none (.call 17 [(.t 11), (.c (.s [97])), (.c (.i .i64 3))])), 
  (.mk (some 10) none (.pure (.mv (.t 12)))), 
  (.mk (some 13) none (.pure (.ext 0 (.t 10)))), 
  (.mk (some 14) none (.pure (.ext 1 (.t 10)))), 
  (.mk (some 1) none (.pure (.mv (.t 13)))), 
  (.mk (some 2) none (.pure (.mv (.t 14))))]) (.seq (.ops [
  (.mk (some 16) none (.bsl 9 1 [(.s [])] 2 [((0, 1), (.c (.s [97, 98]))), ((1, 1), (.c (.s [98])))])), 
  (.mk (some 17) none (.call 28 [(.t 16), (.c (.s [97]))])), 
  (.mk (some 15) none (.pure (.mv (.t 17)))), 
  (.mk (some 18) none (.pure (.ext 0 (.t 15)))), 
  (.mk (some 19) none (.pure (.ext 1 (.t 15)))), 
  (.mk (some 20) none (.pure (.ext 2 (.t 15)))), 
  (.mk (some 3) none (.pure (.mv (.t 18)))), 
  (.mk (some 4) none (.pure (.mv (.t 19)))), 
  (.mk (some 5) none (.pure (.mv (.t 20))))]) (.seq (.ops [
  (.mk (some 22) none (.bsl 9 1 [(.s [])] 2 [((0, 1), (.c (.s [97, 98]))), ((1, 1), (.c (.s [98])))])), 
  (.mk (some 23) none (.call 40 [(.t 22), (.c (.s [97]))])), 
  (.mk (some 21) none (.pure (.mv (.t 23)))), 
  (.mk (some 24) none (.pure (.ext 0 (.t 21)))), 
  (.mk (some 25) none (.pure (.ext 1 (.t 21)))), 
  (.mk (some 6) none (.pure (.mv (.t 24)))), 
  (.mk (some 7) none (.pure (.mv (.t 25))))]) (.seq (.ops [
  (.mk (some 27) none (.bsl 9 1 [(.s [])] 2 [((0, 1), (.c (.s [97, 98]))), ((1, 1), (.c (.s [98, 97])))])), 
  (.mk (some 28) none (.call 38 [(.t 27), (.c (.s [97])), (.c (.i .i64 3))])), 
  (.mk (some 26) none (.pure (.mv (.t 28)))), 
  (.mk (some 29) none (.pure (.ext 0 (.t 26)))), 
  (.mk (some 30) none (.pure (.ext 1 (.t 26)))), 
  (.mk (some 8) none (.pure (.mv (.t 29)))), 
  (.mk (some 9) none (.pure (.mv (.t 30))))]) (.seq (.ops [
  (.mk (some 31) none (.pure (.mv (.t 2)))), 
  (.mk (some 32) none (.pure (.bin .eql (.t 31) (.c (.i .i64 0))))), 
  (.mk (some 33) none (.pure (.mv (.t 32)))), 
  (.mk (some 34) (some (33, true)) (.pure (.mv (.t 1)))), 
  (.mk (some 35) (some (33, true)) (.pure (.sbin .eql (.t 34) (.c (.s [97, 98, 97, 97, 98]))))), 
  (.mk (some 36) none (.pure (.pick (.t 33) (.t 35) (.c (.b false))))), 
  (.mk (some 37) none (.pure (.mv (.t 36)))), 
  (.mk (some 38) (some (37, true)) (.pure (.mv (.t 5)))), 
  (.mk (some 39) (some (37, true)) (.pure (.bin .eql (.t 38) (.c (.i .i64 0))))), 
  (.mk (some 40) none (.pure (.pick (.t 37) (.t 39) (.c (.b false))))), 
  (.mk (some 41) none (.pure (.mv (.t 40)))), 
  (.mk (some 42) (some (41, true)) (.pure (.mv (.t 3)))), 
  (.mk (some 43) (some (41, true)) (.pure (.bin .eql (.t 42) (.c (.i .i64 2))))), 
  (.mk (some 44) none (.pure (.pick (.t 41) (.t 43) (.c (.b false))))), 
  (.mk (some 45) none (.pure (.mv (.t 44)))), 
  (.mk (some 46) (some (45, true)) (.pure (.mv (.t 4)))), 
  (.mk (some 47) (some (45, true)) (.pure (.bin .eql (.t 46) (.c (.i .i64 1))))), 
  (.mk (some 48) none (.pure (.pick (.t 45) (.t 47) (.c (.b false))))), 
  (.mk (some 49) none (.pure (.mv (.t 48)))), 
  (.mk (some 50) (some (49, true)) (.pure (.mv (.t 7)))), 
  (.mk (some 51) (some (49, true)) (.pure (.bin .eql (.t 50) (.c (.i .i64 0))))), 
  (.mk (some 52) none (.pure (.pick (.t 49) (.t 51) (.c (.b false))))), 
  (.mk (some 53) none (.pure (.mv (.t 52)))), 
  (.mk (some 54) (some (53, true)) (.pure (.mv (.t 6)))), 
  (.mk (some 55) (some (53, true)) (.bsl 3 1 [(.i .i64 0)] 2 [((0, 1), (.c (.i .i64 2))), ((1, 1), (.c (.i .i64 (-1))))])), 
  (.mk (some 56) (some (53, true)) (.call 23 [(.t 54), (.t 55)])), 
  (.mk (some 57) none (.pure (.pick (.t 53) (.t 56) (.c (.b false))))), 
  (.mk (some 58) none (.pure (.mv (.t 57)))), 
  (.mk (some 59) (some (58, true)) (.pure (.mv (.t 9)))), 
  (.mk (some 60) (some (58, true)) (.pure (.bin .eql (.t 59) (.c (.i .i64 0))))), 
  (.mk (some 61) none (.pure (.pick (.t 58) (.t 60) (.c (.b false))))), 
  (.mk (some 62) none (.pure (.mv (.t 61)))), 
  (.mk (some 63) (some (62, true)) (.pure (.mv (.t 8)))), 
  (.mk (some 64) (some (62, true)) (.pure (.bin .eql (.t 63) (.c (.i .i64 6))))), 
  (.mk (some 65) none (.pure (.pick (.t 62) (.t 64) (.c (.b false))))), 
  (.mk (some 0) none (.pure (.mv (.t 65))))]) .ret)))))))
def fn17 : AFn := (AFn.mk 35 [(.t 6), (.t 7)] (.seq (.ops [
  (.mk (some 6) none (.pure (.mv (.c (.s []))))), 
  (.mk (some 7) none (.pure (.mv (.c (.i .i64 0)))))]) (.seq (.ops [
  (.mk (some 12) none (.pure (.mv (.t 0)))), 
  (.mk (some 13) none (.pure (.mv (.t 1)))), 
  (.mk (some 14) none (.pure (.mv (.t 2)))), 
  (.mk (some 15) none (.call 47 [(.t 12), (.t 13), (.t 14)])), 
  (.mk (some 11) none (.pure (.mv (.t 15)))), 
  (.mk (some 16) none (.pure (.ext 0 (.t 11)))), 
  (.mk (some 17) none (.pure (.ext 1 (.t 11)))), 
  (.mk (some 8) none (.pure (.mv (.t 16)))), 
  (.mk (some 9) none (.pure (.mv (.t 17))))]) (.seq (.seq (.ops [
  (.mk (some 18) none (.pure (.mv (.t 9)))), 
  (.mk (some 19) none (.pure (.bin .neq (.t 18) (.c (.i .i64 0)))))]) (.cond (.t 19) (.seq (.ops [
  (.mk (some 20) none (.pure (.mv (.t 9)))), 
  (.mk (some 6) none (.pure (.mv (.c (.s []))))), 
  (.mk (some 7) none (.pure (.mv (.t 20))))]) .ret) .skip)) (.seq (.ops [
  (.mk (some 21) none (.pure (.mv (.t 8)))), 
  (.mk (some 22) none (.pure (.mv (.t 2)))), 
  (.mk (some 23) none (.call 48 [(.t 21), (.t 22)])), 
  (.mk (some 10) none (.pure (.mv (.t 23))))]) (.seq (.seq (.ops [
  (.mk (some 24) none (.pure (.mv (.t 10)))), 
  (.mk (some 25) none (.pure (.mv (.t 2)))), 
  (.mk (some 26) none (.pure (.ixS 1 (.t 24) (.t 25)))), 
  (.mk (some 27) none (.ld true 1 (.t 26))), 
  (.mk (some 28) none (.pure (.mv (.t 1)))), 
  (.mk (some 29) none (.call 49 [(.t 27), (.t 28)])), 
  (.mk (some 30) none (.pure (.bin .gtr (.t 29) (.c (.i .u64 100000)))))]) (.cond (.t 30) (.seq (.ops [
  (.mk (some 6) none (.pure (.mv (.c (.s []))))), 
  (.mk (some 7) none (.pure (.mv (.c (.i .i64 8)))))]) .ret) .skip)) (.seq (.ops [
  (.mk (some 31) none (.pure (.mv (.t 8)))), 
  (.mk (some 32) none (.pure (.mv (.t 1)))), 
  (.mk (some 33) none (.pure (.mv (.t 10)))), 
  (.mk (some 34) none (.call 50 [(.t 31), (.t 32), (.t 33)])), 
  (.mk (some 6) none (.pure (.mv (.t 34)))), 
  (.mk (some 7) none (.pure (.mv (.c (.i .i64 0)))))]) .ret)))))))
def fn18 : AFn := (AFn.mk 38 [(.t 6), (.t 7)] (.seq (.ops [
  (.mk (some 6) none (.pure (.mv (.c (.s []))))), 
  (.mk (some 7) none (.pure (.mv (.c (.i .i64 0)))))]) (.seq (.ops [
  (.mk (some 10) none (.pure (.mv (.t 0)))), 
  (.mk (some 11) none (.pure (.mv (.t 1)))), 
  (.mk (some 12) none (.call 42 [(.t 10), (.t 11)])), 
  (.mk (some 8) none (.pure (.mv (.t 12))))]) (.seq (.seq (.ops [
  (.mk (some 13) none (.pure (.mv (.t 8)))), 
  (.mk (some 14) none (.pure (.bin .neq (.t 13) (.c (.i .i64 0)))))]) (.cond (.t 14) (.seq (.ops [
  (.mk (some 15) none (.pure (.mv (.t 8)))), 
  (.mk (some 6) none (.pure (.mv (.c (.s []))))), 
  (.mk (some 7) none (.pure (.mv (.t 15))))]) .ret) .skip)) (.seq (.seq (.ops [
  (.mk (some 16) none (.pure (.mv (.t 2)))), 
  (.mk (some 17) none (.pure (.bin .lss (.t 16) (.c (.i .i64 0))))), 
  (.mk (some 18) none (.pure (.mv (.t 17)))), 
  (.mk (some 19) (some (18, false)) (.pure (.mv (.t 2)))), 
  (.mk (some 20) (some (18, false)) (.pure (.bin .gtr (.t 19) (.c (.i .i64 1000))))), 
  (.mk (some 21) none (.pure (.pick (.t 18) (.c (.b true)) (.t 20))))]) (.cond (.t 21) (.seq (.ops [
  (.mk (some 6) none (.pure (.mv (.c (.s []))))), 
  (.mk (some 7) none (.pure (.mv (.c (.i .i64 3)))))]) .ret) .skip)) (.seq (.ops [
  (.mk (some 22) none (.pure (.mv (.t 0)))), 
  (.mk (some 23) none (.pure (.mv (.t 2)))), 
  (.mk (some 24) none (.call 51 [(.t 22), (.t 23)])), 
  (.mk (some 9) none (.pure (.mv (.t 24))))]) (.seq (.seq (.ops [
  (.mk (some 25) none (.pure (.mv (.t 1)))), 
  (.mk (some 26) none (.pure (.mv (.t 9)))), 
  (.mk (some 27) none (.pure (.mv (.t 2)))), 
  (.mk (some 28) none (.pure (.ixS 1 (.t 26) (.t 27)))), 
  (.mk (some 29) none (.ld true 1 (.t 28))), 
  (.mk (some 30) none (.call 52 [(.t 25), (.t 29)])), 
  (.mk (some 31) none (.pure (.bin .gtr (.t 30) (.c (.i .u64 100000)))))]) (.cond (.t 31) (.seq (.ops [
  (.mk (some 6) none (.pure (.mv (.c (.s []))))), 
  (.mk (some 7) none (.pure (.mv (.c (.i .i64 8)))))]) .ret) .skip)) (.seq (.ops [
  (.mk (some 32) none (.pure (.mv (.t 0)))), 
  (.mk (some 33) none (.pure (.mv (.t 9)))), 
  (.mk (some 34) none (.pure (.mv (.t 1)))), 
  (.mk (some 35) none (.pure (.mv (.t 2)))), 
  (.mk (some 36) none (.call 53 [(.t 32), (.t 33), (.t 34), (.t 35), (.c .nsl)])), 
  (.mk (some 37) none (.bts (.t 36))), 
  (.mk (some 6) none (.pure (.mv (.t 37)))), 
  (.mk (some 7) none (.pure (.mv (.c (.i .i64 0)))))]) .ret))))))))
def fn19 : AFn := (AFn.mk 33 [(.t 6), (.t 7)] (.seq (.ops [
  (.mk (some 6) none (.pure (.mv (.c (.i .i64 0))))), 
  (.mk (some 7) none (.pure (.mv (.c (.i .i64 0)))))]) (.seq (.ops [
  (.mk (some 12) none (.pure (.mv (.t 0)))), 
  (.mk (some 13) none (.pure (.mv (.t 1)))), 
  (.mk (some 14) none (.pure (.mv (.t 2)))), 
  (.mk (some 15) none (.call 47 [(.t 12), (.t 13), (.t 14)])), 
  (.mk (some 11) none (.pure (.mv (.t 15)))), 
  (.mk (some 16) none (.pure (.ext 0 (.t 11)))), 
  (.mk (some 17) none (.pure (.ext 1 (.t 11)))), 
  (.mk (some 8) none (.pure (.mv (.t 16)))), 
  (.mk (some 9) none (.pure (.mv (.t 17))))]) (.seq (.seq (.ops [
  (.mk (some 18) none (.pure (.mv (.t 9)))), 
  (.mk (some 19) none (.pure (.bin .neq (.t 18) (.c (.i .i64 0)))))]) (.cond (.t 19) (.seq (.ops [
  (.mk (some 20) none (.pure (.mv (.t 9)))), 
  (.mk (some 6) none (.pure (.mv (.c (.i .i64 0))))), 
  (.mk (some 7) none (.pure (.mv (.t 20))))]) .ret) .skip)) (.seq (.ops [
  (.mk (some 21) none (.pure (.mv (.t 8)))), 
  (.mk (some 22) none (.pure (.mv (.t 2)))), 
  (.mk (some 23) none (.call 48 [(.t 21), (.t 22)])), 
  (.mk (some 24) none (.pure (.mv (.t 2)))), 
  (.mk (some 25) none (.pure (.ixS 1 (.t 23) (.t 24)))), 
  (.mk (some 26) none (.ld true 1 (.t 25))), 
  (.mk (some 27) none (.pure (.mv (.t 1)))), 
  (.mk (some 28) none (.call 49 [(.t 26), (.t 27)])), 
  (.mk (some 10) none (.pure (.mv (.t 28))))]) (.seq (.seq (.ops [
  (.mk (some 29) none (.pure (.mv (.t 10)))), 
  (.mk (some 30) none (.pure (.bin .gtr (.t 29) (.c (.i .u64 1152921504606846976)))))]) (.cond (.t 30) (.seq (.ops [
  (.mk (some 6) none (.pure (.mv (.c (.i .i64 0))))), 
  (.mk (some 7) none (.pure (.mv (.c (.i .i64 4)))))]) .ret) .skip)) (.seq (.ops [
  (.mk (some 31) none (.pure (.mv (.t 10)))), 
  (.mk (some 32) none (.pure (.conv .i64 (.t 31)))), 
  (.mk (some 6) none (.pure (.mv (.t 32)))), 
  (.mk (some 7) none (.pure (.mv (.c (.i .i64 0)))))]) .ret)))))))
def fn20 : AFn := (AFn.mk 34 [(.t 6), (.t 7)] (.seq (.ops [
  (.mk (some 6) none (.pure (.mv (.c (.i .i64 0))))), 
  (.mk (some 7) none (.pure (.mv (.c (.i .i64 0)))))]) (.seq (.ops [
  (.mk (some 10) none (.pure (.mv (.t 0)))), 
  (.mk (some 11) none (.pure (.mv (.t 1)))), 
  (.mk (some 12) none (.call 42 [(.t 10), (.t 11)])), 
  (.mk (some 8) none (.pure (.mv (.t 12))))]) (.seq (.seq (.ops [
  (.mk (some 13) none (.pure (.mv (.t 8)))), 
  (.mk (some 14) none (.pure (.bin .neq (.t 13) (.c (.i .i64 0)))))]) (.cond (.t 14) (.seq (.ops [
  (.mk (some 15) none (.pure (.mv (.t 8)))), 
  (.mk (some 6) none (.pure (.mv (.c (.i .i64 0))))), 
  (.mk (some 7) none (.pure (.mv (.t 15))))]) .ret) .skip)) (.seq (.seq (.ops [
  (.mk (some 16) none (.pure (.mv (.t 2)))), 
  (.mk (some 17) none (.pure (.bin .lss (.t 16) (.c (.i .i64 0))))), 
  (.mk (some 18) none (.pure (.mv (.t 17)))), 
  (.mk (some 19) (some (18, false)) (.pure (.mv (.t 2)))), 
  (.mk (some 20) (some (18, false)) (.pure (.bin .gtr (.t 19) (.c (.i .i64 1000))))), 
  (.mk (some 21) none (.pure (.pick (.t 18) (.c (.b true)) (.t 20))))]) (.cond (.t 21) (.seq (.ops [
  (.mk (some 6) none (.pure (.mv (.c (.i .i64 0))))), 
  (.mk (some 7) none (.pure (.mv (.c (.i .i64 3)))))]) .ret) .skip)) (.seq (.ops [
  (.mk (some 22) none (.pure (.mv (.t 1)))), 
  (.mk (some 23) none (.pure (.mv (.t 0)))), 
  (.mk (some 24) none (.pure (.mv (.t 2)))), 
  (.mk (some 25) none (.call 51 [(.t 23), (.t 24)])), 
  (.mk (some 26) none (.pure (.mv (.t 2)))), 
  (.mk (some 27) none (.pure (.ixS 1 (.t 25) (.t 26)))), 
  (.mk (some 28) none (.ld true 1 (.t 27))), 
  (.mk (some 29) none (.call 52 [(.t 22), (.t 28)])), 
  (.mk (some 9) none (.pure (.mv (.t 29))))]) (.seq (.seq (.ops [
  (.mk (some 30) none (.pure (.mv (.t 9)))), 
  (.mk (some 31) none (.pure (.bin .gtr (.t 30) (.c (.i .u64 1152921504606846976)))))]) (.cond (.t 31) (.seq (.ops [
  (.mk (some 6) none (.pure (.mv (.c (.i .i64 0))))), 
  (.mk (some 7) none (.pure (.mv (.c (.i .i64 4)))))]) .ret) .skip)) (.seq (.ops [
  (.mk (some 32) none (.pure (.mv (.t 9)))), 
  (.mk (some 33) none (.pure (.conv .i64 (.t 32)))), 
  (.mk (some 6) none (.pure (.mv (.t 33)))), 
  (.mk (some 7) none (.pure (.mv (.c (.i .i64 0)))))]) .ret))))))))
def fn21 : AFn := (AFn.mk 89 [(.t 6), (.t 7)] (.seq (.ops [
  (.mk (some 6) none (.pure (.mv (.c .nsl)))), 
  (.mk (some 7) none (.pure (.mv (.c (.i .i64 0)))))]) (.seq (.ops [
  (.mk (some 18) none (.pure (.mv (.t 0)))), 
  (.mk (some 19) none (.pure (.mv (.t 1)))), 
  (.mk (some 20) none (.pure (.mv (.t 2)))), 
  (.mk (some 21) none (.call 47 [(.t 18), (.t 19), (.t 20)])), 
  (.mk (some 17) none (.pure (.mv (.t 21)))), 
  (.mk (some 22) none (.pure (.ext 0 (.t 17)))), 
  (.mk (some 23) none (.pure (.ext 1 (.t 17)))), 
  (.mk (some 8) none (.pure (.mv (.t 22)))), 
  (.mk (some 9) none (.pure (.mv (.t 23))))]) (.seq (.seq (.ops [
  (.mk (some 24) none (.pure (.mv (.t 9)))), 
  (.mk (some 25) none (.pure (.bin .neq (.t 24) (.c (.i .i64 0)))))]) (.cond (.t 25) (.seq (.ops [
  (.mk (some 26) none (.pure (.mv (.t 9)))), 
  (.mk (some 6) none (.pure (.mv (.c .nsl)))), 
  (.mk (some 7) none (.pure (.mv (.t 26))))]) .ret) .skip)) (.seq (.ops [
  (.mk (some 27) none (.pure (.mv (.t 8)))), 
  (.mk (some 28) none (.pure (.len false (.t 27)))), 
  (.mk (some 29) none (.mk 63 1 24 [.nsl] (.t 28) (.t 28))), 
  (.mk (some 10) none (.pure (.mv (.t 29))))]) (.seq (.seq (.ops [
  (.mk (some 30) none (.pure (.mv (.t 10)))), 
  (.mk (some 31) none (.pure (.len false (.t 30)))), 
  (.mk (some 32) none (.pure (.mv (.c (.i .i64 0)))))]) (.block 0 (.loop (.seq (.ops [
  (.mk (some 33) none (.pure (.bin .lss (.t 32) (.t 31))))]) (.seq (.cond (.t 33) .skip (.exit 0)) (.seq (.block 1 (.seq (.ops [
  (.mk (some 34) none (.pure (.mv (.t 32)))), 
  (.mk (some 11) none (.pure (.mv (.t 34))))]) (.ops [
  (.mk (some 35) none (.pure (.mv (.t 10)))), 
  (.mk (some 36) none (.pure (.mv (.t 11)))), 
  (.mk (some 37) none (.bsl 61 1 [(.i .u64 0)] 1 [((0, 1), (.c (.i .u64 0)))])), 
  (.mk (some 38) none (.pure (.ixS 1 (.t 35) (.t 36)))), 
  (.mk none none (.st 1 (.t 38) (.t 37)))]))) (.ops [
  (.mk (some 39) none (.pure (.bin .add (.t 32) (.c (.i .i64 1))))), 
  (.mk (some 32) none (.pure (.mv (.t 39))))]))))))) (.seq (.seq (.ops [
  (.mk (some 40) none (.pure (.mv (.t 1)))), 
  (.mk (some 41) none (.pure (.len true (.t 40)))), 
  (.mk (some 42) none (.pure (.mv (.c (.i .i64 0)))))]) (.block 2 (.loop (.seq (.ops [
  (.mk (some 43) none (.pure (.bin .lss (.t 42) (.t 41))))]) (.seq (.cond (.t 43) .skip (.exit 2)) (.seq (.block 3 (.seq (.ops [
  (.mk (some 44) none (.pure (.mv (.t 42)))), 
  (.mk (some 12) none (.pure (.mv (.t 44))))]) (.ops [
  (.mk (some 45) none (.pure (.mv (.t 10)))), 
  (.mk (some 46) none (.pure (.mv (.t 1)))), 
  (.mk (some 47) none (.pure (.mv (.t 12)))), 
  (.mk (some 48) none (.pure (.ixStr (.t 46) (.t 47)))), 
  (.mk (some 49) none (.call 54 [(.t 48)])), 
  (.mk (some 50) none (.pure (.ixS 1 (.t 45) (.t 49)))), 
  (.mk (some 51) none (.ld true 1 (.t 50))), 
  (.mk (some 52) none (.pure (.ixS 1 (.t 51) (.c (.i .i64 0))))), 
  (.mk (some 53) none (.ld true 1 (.t 52))), 
  (.mk (some 54) none (.pure (.bin .add (.t 53) (.c (.i .u64 1))))), 
  (.mk (some 55) none (.pure (.ixS 1 (.t 51) (.c (.i .i64 0))))), 
  (.mk none none (.st 1 (.t 55) (.t 54)))]))) (.ops [
  (.mk (some 56) none (.pure (.bin .add (.t 42) (.c (.i .i64 1))))), 
  (.mk (some 42) none (.pure (.mv (.t 56))))]))))))) (.seq (.ops [
  (.mk (some 57) none (.pure (.mv (.t 8)))), 
  (.mk (some 58) none (.call 55 [(.t 57), (.c (.fn 56 [] []))])), 
  (.mk (some 13) none (.pure (.mv (.t 58))))]) (.seq (.seq (.ops [
  (.mk (some 59) none (.pure (.mv (.t 2)))), 
  (.mk (some 60) none (.pure (.mv (.c (.i .i64 0)))))]) (.block 4 (.loop (.seq (.ops [
  (.mk (some 61) none (.pure (.bin .lss (.t 60) (.t 59))))]) (.seq (.cond (.t 61) .skip (.exit 4)) (.seq (.block 5 (.ops [
  (.mk (some 62) none (.pure (.mv (.t 13)))), 
  (.mk (some 63) none (.pure (.mv (.t 10)))), 
  (.mk (some 64) none (.call 57 [(.t 62), (.t 63)])), 
  (.mk (some 10) none (.pure (.mv (.t 64))))])) (.ops [
  (.mk (some 65) none (.pure (.bin .add (.t 60) (.c (.i .i64 1))))), 
  (.mk (some 60) none (.pure (.mv (.t 65))))]))))))) (.seq (.ops [
  (.mk (some 66) none (.pure (.mv (.t 8)))), 
  (.mk (some 67) none (.pure (.len false (.t 66)))), 
  (.mk (some 68) none (.mk 3 1 8 [(.i .i64 0)] (.t 67) (.t 67))), 
  (.mk (some 14) none (.pure (.mv (.t 68))))]) (.seq (.seq (.ops [
  (.mk (some 69) none (.pure (.mv (.t 10)))), 
  (.mk (some 70) none (.pure (.len false (.t 69)))), 
  (.mk (some 71) none (.pure (.mv (.c (.i .i64 0)))))]) (.block 6 (.loop (.seq (.ops [
  (.mk (some 72) none (.pure (.bin .lss (.t 71) (.t 70))))]) (.seq (.cond (.t 72) .skip (.exit 6)) (.seq (.block 7 (.seq (.ops [
  (.mk (some 73) none (.pure (.mv (.t 71)))), 
  (.mk (some 74) none (.pure (.ixS 1 (.t 69) (.t 71)))), 
  (.mk (some 75) none (.ld true 1 (.t 74))), 
  (.mk (some 15) none (.pure (.mv (.t 73)))), 
  (.mk (some 16) none (.pure (.mv (.t 75))))]) (.seq (.seq (.ops [
  (.mk (some 76) none (.pure (.mv (.t 16)))), 
  (.mk (some 77) none (.pure (.ixS 1 (.t 76) (.c (.i .i64 0))))), 
  (.mk (some 78) none (.ld true 1 (.t 77))), 
  (.mk (some 79) none (.pure (.bin .gtr (.t 78) (.c (.i .u64 1152921504606846976)))))]) (.cond (.t 79) (.seq (.ops [
  (.mk (some 6) none (.pure (.mv (.c .nsl)))), 
  (.mk (some 7) none (.pure (.mv (.c (.i .i64 4)))))]) .ret) .skip)) (.ops [
  (.mk (some 80) none (.pure (.mv (.t 14)))), 
  (.mk (some 81) none (.pure (.mv (.t 15)))), 
  (.mk (some 82) none (.pure (.mv (.t 16)))), 
  (.mk (some 83) none (.pure (.ixS 1 (.t 82) (.c (.i .i64 0))))), 
  (.mk (some 84) none (.ld true 1 (.t 83))), 
  (.mk (some 85) none (.pure (.conv .i64 (.t 84)))), 
  (.mk (some 86) none (.pure (.ixS 1 (.t 80) (.t 81)))), 
  (.mk none none (.st 1 (.t 86) (.t 85)))])))) (.ops [
  (.mk (some 87) none (.pure (.bin .add (.t 71) (.c (.i .i64 1))))), 
  (.mk (some 71) none (.pure (.mv (.t 87))))]))))))) (.seq (.ops [
  (.mk (some 88) none (.pure (.mv (.t 14)))), 
  (.mk (some 6) none (.pure (.mv (.t 88)))), 
  (.mk (some 7) none (.pure (.mv (.c (.i .i64 0)))))]) .ret))))))))))))
def fn22 : AFn := (AFn.mk 48 [(.t 6), (.t 7)] (.seq (.ops [
  (.mk (some 6) none (.pure (.mv (.c .nsl)))), 
  (.mk (some 7) none (.pure (.mv (.c (.i .i64 0)))))]) (.seq (.ops [
  (.mk (some 12) none (.pure (.mv (.t 0)))), 
  (.mk (some 13) none (.pure (.mv (.t 1)))), 
  (.mk (some 14) none (.call 42 [(.t 12), (.t 13)])), 
  (.mk (some 8) none (.pure (.mv (.t 14))))]) (.seq (.seq (.ops [
  (.mk (some 15) none (.pure (.mv (.t 8)))), 
  (.mk (some 16) none (.pure (.bin .neq (.t 15) (.c (.i .i64 0)))))]) (.cond (.t 16) (.seq (.ops [
  (.mk (some 17) none (.pure (.mv (.t 8)))), 
  (.mk (some 6) none (.pure (.mv (.c .nsl)))), 
  (.mk (some 7) none (.pure (.mv (.t 17))))]) .ret) .skip)) (.seq (.seq (.ops [
  (.mk (some 18) none (.pure (.mv (.t 2)))), 
  (.mk (some 19) none (.pure (.bin .lss (.t 18) (.c (.i .i64 0))))), 
  (.mk (some 20) none (.pure (.mv (.t 19)))), 
  (.mk (some 21) (some (20, false)) (.pure (.mv (.t 2)))), 
  (.mk (some 22) (some (20, false)) (.pure (.bin .gtr (.t 21) (.c (.i .i64 1000))))), 
  (.mk (some 23) none (.pure (.pick (.t 20) (.c (.b true)) (.t 22))))]) (.cond (.t 23) (.seq (.ops [
  (.mk (some 6) none (.pure (.mv (.c .nsl)))), 
  (.mk (some 7) none (.pure (.mv (.c (.i .i64 3)))))]) .ret) .skip)) (.seq (.ops [
  (.mk (some 24) none (.pure (.mv (.t 0)))), 
  (.mk (some 25) none (.pure (.mv (.t 1)))), 
  (.mk (some 26) none (.pure (.mv (.t 2)))), 
  (.mk (some 27) none (.call 58 [(.t 24), (.t 25), (.t 26)])), 
  (.mk (some 9) none (.pure (.mv (.t 27))))]) (.seq (.ops [
  (.mk (some 10) none (.pure (.mv (.c .nsl))))]) (.seq (.seq (.ops [
  (.mk (some 11) none (.pure (.mv (.c (.i .i64 0)))))]) (.block 0 (.loop (.seq (.seq (.ops [
  (.mk (some 28) none (.pure (.mv (.t 11)))), 
  (.mk (some 29) none (.pure (.mv (.t 9)))), 
  (.mk (some 30) none (.pure (.len false (.t 29)))), 
  (.mk (some 31) none (.pure (.bin .lss (.t 28) (.t 30))))]) (.cond (.t 31) .skip (.exit 0))) (.seq (.block 1 (.seq (.seq (.ops [
  (.mk (some 34) none (.pure (.mv (.t 9)))), 
  (.mk (some 35) none (.pure (.mv (.t 11)))), 
  (.mk (some 36) none (.pure (.ixS 1 (.t 34) (.t 35)))), 
  (.mk (some 37) none (.ld true 1 (.t 36))), 
  (.mk (some 38) none (.pure (.bin .gtr (.t 37) (.c (.i .u64 1152921504606846976)))))]) (.cond (.t 38) (.seq (.ops [
  (.mk (some 6) none (.pure (.mv (.c .nsl)))), 
  (.mk (some 7) none (.pure (.mv (.c (.i .i64 4)))))]) .ret) .skip)) (.ops [
  (.mk (some 39) none (.pure (.mv (.t 10)))), 
  (.mk (some 40) none (.pure (.mv (.t 9)))), 
  (.mk (some 41) none (.pure (.mv (.t 11)))), 
  (.mk (some 42) none (.pure (.ixS 1 (.t 40) (.t 41)))), 
  (.mk (some 43) none (.ld true 1 (.t 42))), 
  (.mk (some 44) none (.pure (.conv .i64 (.t 43)))), 
  (.mk (some 45) none (.bsl 3 1 [(.i .i64 0)] 1 [((0, 1), (.t 44))])), 
  (.mk (some 46) none (.app 3 1 8 [(.i .i64 0)] (.t 39) (.t 45))), 
  (.mk (some 10) none (.pure (.mv (.t 46))))]))) (.ops [
  (.mk (some 32) none (.pure (.mv (.t 11)))), 
  (.mk (some 33) none (.pure (.bin .add (.t 32) (.c (.i .i64 1))))), 
  (.mk (some 11) none (.pure (.mv (.t 33))))])))))) (.seq (.ops [
  (.mk (some 47) none (.pure (.mv (.t 10)))), 
  (.mk (some 6) none (.pure (.mv (.t 47)))), 
  (.mk (some 7) none (.pure (.mv (.c (.i .i64 0)))))]) .ret)))))))))
def fn23 : AFn := (AFn.mk 26 [(.t 4)] (.seq (.ops [
  (.mk (some 4) none (.pure (.mv (.c (.b false)))))]) (.seq (.seq (.ops [
  (.mk (some 6) none (.pure (.mv (.t 0)))), 
  (.mk (some 7) none (.pure (.len false (.t 6)))), 
  (.mk (some 8) none (.pure (.mv (.t 1)))), 
  (.mk (some 9) none (.pure (.len false (.t 8)))), 
  (.mk (some 10) none (.pure (.bin .neq (.t 7) (.t 9))))]) (.cond (.t 10) (.seq (.ops [
  (.mk (some 4) none (.pure (.mv (.c (.b false)))))]) .ret) .skip)) (.seq (.seq (.ops [
  (.mk (some 5) none (.pure (.mv (.c (.i .i64 0)))))]) (.block 0 (.loop (.seq (.seq (.ops [
  (.mk (some 11) none (.pure (.mv (.t 5)))), 
  (.mk (some 12) none (.pure (.mv (.t 0)))), 
  (.mk (some 13) none (.pure (.len false (.t 12)))), 
  (.mk (some 14) none (.pure (.bin .lss (.t 11) (.t 13))))]) (.cond (.t 14) .skip (.exit 0))) (.seq (.block 1 (.seq (.any [(
  (.mk (some 17) none (.pure (.mv (.t 0)))), false), (
  (.mk (some 18) none (.pure (.mv (.t 5)))), false), (
  (.mk (some 19) none (.pure (.ixS 1 (.t 17) (.t 18)))), false), (
  (.mk (some 20) none (.ld true 1 (.t 19))), false), (
  (.mk (some 21) none (.pure (.mv (.t 1)))), false), (
  (.mk (some 22) none (.pure (.mv (.t 5)))), false), (
  (.mk (some 23) none (.pure (.ixS 1 (.t 21) (.t 22)))), false), (
  (.mk (some 24) none (.ld true 1 (.t 23))), false), (
  (.mk (some 25) none (.pure (.bin .neq (.t 20) (.t 24)))), false)]) (.cond (.t 25) (.seq (.ops [
  (.mk (some 4) none (.pure (.mv (.c (.b false)))))]) .ret) .skip))) (.ops [
  (.mk (some 15) none (.pure (.mv (.t 5)))), 
  (.mk (some 16) none (.pure (.bin .add (.t 15) (.c (.i .i64 1))))), 
  (.mk (some 5) none (.pure (.mv (.t 16))))])))))) (.seq (.ops [
  (.mk (some 4) none (.pure (.mv (.c (.b true)))))]) .ret)))))
def fn28 : AFn := (AFn.mk 49 [(.t 4), (.t 5), (.t 6)] (.seq (.ops [
  (.mk (some 4) none (.pure (.mv (.c (.i .i64 0))))), 
  (.mk (some 5) none (.pure (.mv (.c (.i .i64 0))))), 
  (.mk (some 6) none (.pure (.mv (.c (.i .i64 0)))))]) (.seq (.ops [
  (.mk (some 14) none (.pure (.mv (.t 0)))), 
  (.mk (some 15) none (.pure (.mv (.t 1)))), 
  (.mk (some 16) none (.call 60 [(.t 14), (.t 15)])), 
  (.mk (some 13) none (.pure (.mv (.t 16)))), 
  (.mk (some 17) none (.pure (.ext 0 (.t 13)))), 
  (.mk (some 18) none (.pure (.ext 1 (.t 13)))), 
  (.mk (some 7) none (.pure (.mv (.t 17)))), 
  (.mk (some 8) none (.pure (.mv (.t 18))))]) (.seq (.seq (.ops [
  (.mk (some 19) none (.pure (.mv (.t 8)))), 
  (.mk (some 20) none (.pure (.bin .neq (.t 19) (.c (.i .i64 0)))))]) (.cond (.t 20) (.seq (.ops [
  (.mk (some 21) none (.pure (.mv (.t 8)))), 
  (.mk (some 4) none (.pure (.mv (.c (.i .i64 0))))), 
  (.mk (some 5) none (.pure (.mv (.c (.i .i64 0))))), 
  (.mk (some 6) none (.pure (.mv (.t 21))))]) .ret) .skip)) (.seq (.ops [
  (.mk (some 22) none (.pure (.mv (.t 7)))), 
  (.mk (some 23) none (.pure (.mv (.t 7)))), 
  (.mk (some 24) none (.call 63 [(.t 23)])), 
  (.mk (some 25) none (.pure (.build [.nsl, .nsl] [((0, 1), (.t 22)), ((1, 1), (.t 24))]))), 
  (.mk (some 9) none (.al 85 [.nsl, .nsl])), 
  (.mk none none (.st 2 (.t 9) (.t 25)))]) (.seq (.ops [
  (.mk (some 10) none (.pure (.mv (.c (.i .i64 0)))))]) (.seq (.seq (.ops [
  (.mk (some 26) none (.pure (.mv (.t 1)))), 
  (.mk (some 27) none (.pure (.len true (.t 26)))), 
  (.mk (some 28) none (.pure (.mv (.c (.i .i64 0)))))]) (.block 0 (.loop (.seq (.ops [
  (.mk (some 29) none (.pure (.bin .lss (.t 28) (.t 27))))]) (.seq (.cond (.t 29) .skip (.exit 0)) (.seq (.block 1 (.seq (.ops [
  (.mk (some 30) none (.pure (.mv (.t 28)))), 
  (.mk (some 11) none (.pure (.mv (.t 30))))]) (.seq (.ops [
  (.mk (some 31) none (.pure (.mv (.t 1)))), 
  (.mk (some 32) none (.pure (.mv (.t 11)))), 
  (.mk (some 33) none (.pure (.ixStr (.t 31) (.t 32)))), 
  (.mk (some 34) none (.call 54 [(.t 33)])), 
  (.mk (some 12) none (.pure (.mv (.t 34))))]) (.seq (.seq (.ops [
  (.mk (some 35) none (.ld false 2 (.t 9))), 
  (.mk (some 36) none (.pure (.mv (.t 12)))), 
  (.mk (some 37) none (.call 64 [(.t 35), (.t 36)]))]) (.cond (.t 37) (.seq (.ops [
  (.mk (some 4) none (.pure (.mv (.c (.i .i64 3))))), 
  (.mk (some 5) none (.pure (.mv (.c (.i .i64 0))))), 
  (.mk (some 6) none (.pure (.mv (.c (.i .i64 0)))))]) .ret) .skip)) (.ops [
  (.mk (some 38) none (.pure (.mv (.t 10)))), 
  (.mk (some 39) none (.ld false 2 (.t 9))), 
  (.mk (some 40) none (.pure (.mv (.t 12)))), 
  (.mk (some 41) none (.call 65 [(.t 39), (.t 40)])), 
  (.mk (some 42) none (.pure (.mx true (.t 38) (.t 41)))), 
  (.mk (some 10) none (.pure (.mv (.t 42))))]))))) (.ops [
  (.mk (some 43) none (.pure (.bin .add (.t 28) (.c (.i .i64 1))))), 
  (.mk (some 28) none (.pure (.mv (.t 43))))]))))))) (.seq (.seq (.ops [
  (.mk (some 44) none (.pure (.mv (.t 10)))), 
  (.mk (some 45) none (.pure (.bin .lss (.t 44) (.c (.i .i64 2)))))]) (.cond (.t 45) (.seq (.ops [
  (.mk (some 46) none (.pure (.mv (.t 10)))), 
  (.mk (some 4) none (.pure (.mv (.t 46)))), 
  (.mk (some 5) none (.pure (.mv (.c (.i .i64 0))))), 
  (.mk (some 6) none (.pure (.mv (.c (.i .i64 0)))))]) .ret) .skip)) (.seq (.ops [
  (.mk (some 47) none (.pure (.mv (.t 10)))), 
  (.mk (some 48) none (.pure (.bin .sub (.t 47) (.c (.i .i64 1))))), 
  (.mk (some 4) none (.pure (.mv (.c (.i .i64 2))))), 
  (.mk (some 5) none (.pure (.mv (.t 48)))), 
  (.mk (some 6) none (.pure (.mv (.c (.i .i64 0)))))]) .ret)))))))))
def fn38 : AFn := (AFn.mk 59 [(.t 6), (.t 7)] (.seq (.ops [
  (.mk (some 6) none (.pure (.mv (.c (.i .i64 0))))), 
  (.mk (some 7) none (.pure (.mv (.c (.i .i64 0)))))]) (.seq (.ops [
  (.mk (some 17) none (.pure (.mv (.t 0)))), 
  (.mk (some 18) none (.pure (.mv (.t 1)))), 
  (.mk (some 19) none (.call 74 [(.t 17), (.t 18)])), 
  (.mk (some 16) none (.pure (.mv (.t 19)))), 
  (.mk (some 20) none (.pure (.ext 0 (.t 16)))), 
  (.mk (some 21) none (.pure (.ext 1 (.t 16)))), 
  (.mk (some 22) none (.pure (.ext 2 (.t 16)))), 
  (.mk (some 8) none (.pure (.mv (.t 20)))), 
  (.mk (some 9) none (.pure (.mv (.t 21)))), 
  (.mk (some 10) none (.pure (.mv (.t 22))))]) (.seq (.seq (.ops [
  (.mk (some 23) none (.pure (.mv (.t 10)))), 
  (.mk (some 24) none (.pure (.bin .neq (.t 23) (.c (.i .i64 0)))))]) (.cond (.t 24) (.seq (.ops [
  (.mk (some 25) none (.pure (.mv (.t 10)))), 
  (.mk (some 6) none (.pure (.mv (.c (.i .i64 0))))), 
  (.mk (some 7) none (.pure (.mv (.t 25))))]) .ret) .skip)) (.seq (.seq (.ops [
  (.mk (some 26) none (.pure (.mv (.t 2)))), 
  (.mk (some 27) none (.pure (.bin .lss (.t 26) (.c (.i .i64 1))))), 
  (.mk (some 28) none (.pure (.mv (.t 27)))), 
  (.mk (some 29) (some (28, false)) (.pure (.mv (.t 2)))), 
  (.mk (some 30) (some (28, false)) (.pure (.bin .gtr (.t 29) (.c (.i .i64 10))))), 
  (.mk (some 31) none (.pure (.pick (.t 28) (.c (.b true)) (.t 30))))]) (.cond (.t 31) (.seq (.ops [
  (.mk (some 6) none (.pure (.mv (.c (.i .i64 0))))), 
  (.mk (some 7) none (.pure (.mv (.c (.i .i64 2)))))]) .ret) .skip)) (.seq (.ops [
  (.mk (some 11) none (.al 52 [.nsl]))]) (.seq (.seq (.ops [
  (.mk (some 32) none (.pure (.mv (.t 8)))), 
  (.mk (some 33) none (.pure (.mv (.t 9)))), 
  (.mk (some 34) none (.call 75 [(.t 32), (.t 33)]))]) (.block 0 (.rng (.t 34) [35, 36] (.ops [
  (.mk (some 13) none (.pure (.mv (.t 36))))]) (.block 1 (.ops [
  (.mk (some 37) none (.ld true 1 (.t 11))), 
  (.mk (some 38) none (.pure (.mv (.t 13)))), 
  (.mk (some 39) none (.bsl 5 1 [(.i .u8 0)] 1 [((0, 1), (.t 38))])), 
  (.mk (some 40) none (.app 5 1 1 [(.i .u8 0)] (.t 37) (.t 39))), 
  (.mk none none (.st 1 (.t 11) (.t 40)))]))))) (.seq (.ops [
  (.mk (some 41) none .mkm), 
  (.mk (some 14) none (.pure (.mv (.t 41))))]) (.seq (.seq (.ops [
  (.mk (some 42) none (.pure (.mv (.t 2)))), 
  (.mk (some 15) none (.pure (.mv (.t 42))))]) (.block 2 (.loop (.seq (.seq (.ops [
  (.mk (some 43) none (.pure (.mv (.t 15)))), 
  (.mk (some 44) none (.ld true 1 (.t 11))), 
  (.mk (some 45) none (.pure (.len false (.t 44)))), 
  (.mk (some 46) none (.pure (.bin .leq (.t 43) (.t 45))))]) (.cond (.t 46) .skip (.exit 2))) (.seq (.block 3 (.ops [
  (.mk (some 49) none (.pure (.mv (.t 14)))), 
  (.mk (some 50) none (.ld true 1 (.t 11))), 
  (.mk (some 51) none (.pure (.mv (.t 15)))), 
  (.mk (some 52) none (.pure (.mv (.t 2)))), 
  (.mk (some 53) none (.pure (.bin .sub (.t 51) (.t 52)))), 
  (.mk (some 54) none (.pure (.mv (.t 15)))), 
  (.mk (some 55) none (.pure (.slS 1 (.t 50) (some (.t 53)) (some (.t 54)) none))), 
  (.mk (some 56) none (.bts (.t 55))), 
  (.mk none none (.mup (.t 49) (.t 56) (.c (.b true))))])) (.ops [
  (.mk (some 47) none (.pure (.mv (.t 15)))), 
  (.mk (some 48) none (.pure (.bin .add (.t 47) (.c (.i .i64 1))))), 
  (.mk (some 15) none (.pure (.mv (.t 48))))])))))) (.seq (.ops [
  (.mk (some 57) none (.pure (.mv (.t 14)))), 
  (.mk (some 58) none (.mln (.t 57))), 
  (.mk (some 6) none (.pure (.mv (.t 58)))), 
  (.mk (some 7) none (.pure (.mv (.c (.i .i64 0)))))]) .ret))))))))))
def fn40 : AFn := (AFn.mk 66 [(.t 4), (.t 5)] (.seq (.ops [
  (.mk (some 4) none (.pure (.mv (.c .nsl)))), 
  (.mk (some 5) none (.pure (.mv (.c (.i .i64 0)))))]) (.seq (.ops [
  (.mk (some 15) none (.pure (.mv (.t 0)))), 
  (.mk (some 16) none (.pure (.mv (.t 1)))), 
  (.mk (some 17) none (.call 60 [(.t 15), (.t 16)])), 
  (.mk (some 14) none (.pure (.mv (.t 17)))), 
  (.mk (some 18) none (.pure (.ext 0 (.t 14)))), 
  (.mk (some 19) none (.pure (.ext 1 (.t 14)))), 
  (.mk (some 6) none (.pure (.mv (.t 18)))), 
  (.mk (some 7) none (.pure (.mv (.t 19))))]) (.seq (.seq (.ops [
  (.mk (some 20) none (.pure (.mv (.t 7)))), 
  (.mk (some 21) none (.pure (.bin .neq (.t 20) (.c (.i .i64 0)))))]) (.cond (.t 21) (.seq (.ops [
  (.mk (some 22) none (.pure (.mv (.t 7)))), 
  (.mk (some 4) none (.pure (.mv (.c .nsl)))), 
  (.mk (some 5) none (.pure (.mv (.t 22))))]) .ret) .skip)) (.seq (.ops [
  (.mk (some 23) none (.pure (.mv (.t 6)))), 
  (.mk (some 24) none (.call 79 [(.t 23), (.c (.fn 80 [] []))])), 
  (.mk (some 8) none (.pure (.mv (.t 24))))]) (.seq (.ops [
  (.mk (some 25) none (.pure (.mv (.t 6)))), 
  (.mk (some 26) none (.pure (.len false (.t 25)))), 
  (.mk (some 27) none (.mk 3 1 8 [(.i .i64 0)] (.t 26) (.t 26))), 
  (.mk (some 9) none (.pure (.mv (.t 27))))]) (.seq (.ops [
  (.mk (some 28) none (.pure (.mv (.t 6)))), 
  (.mk (some 29) none (.pure (.len false (.t 28)))), 
  (.mk (some 30) none (.call 81 [(.t 29)])), 
  (.mk (some 10) none (.pure (.mv (.t 30))))]) (.seq (.seq (.ops [
  (.mk (some 31) none (.pure (.mv (.t 9)))), 
  (.mk (some 32) none (.pure (.len false (.t 31)))), 
  (.mk (some 33) none (.pure (.mv (.c (.i .i64 0)))))]) (.block 0 (.loop (.seq (.ops [
  (.mk (some 34) none (.pure (.bin .lss (.t 33) (.t 32))))]) (.seq (.cond (.t 34) .skip (.exit 0)) (.seq (.block 1 (.seq (.ops [
  (.mk (some 35) none (.pure (.mv (.t 33)))), 
  (.mk (some 11) none (.pure (.mv (.t 35))))]) (.seq (.ops [
  (.mk (some 36) none (.pure (.mv (.t 8)))), 
  (.mk (some 37) none (.pure (.mv (.t 10)))), 
  (.mk (some 38) none (.call 82 [(.t 36), (.t 37)])), 
  (.mk (some 10) none (.pure (.mv (.t 38))))]) (.seq (.ops [
  (.mk (some 39) none (.pure (.mv (.t 10)))), 
  (.mk (some 40) none (.call 83 [(.t 39)])), 
  (.mk (some 41) none (.pure (.mv (.t 11)))), 
  (.mk (some 42) none (.pure (.bin .add (.t 41) (.c (.i .i64 1))))), 
  (.mk (some 43) none (.pure (.bin .quo (.t 40) (.t 42)))), 
  (.mk (some 12) none (.pure (.mv (.t 43))))]) (.seq (.seq (.ops [
  (.mk (some 44) none (.pure (.mv (.t 10)))), 
  (.mk (some 45) none (.pure (.len false (.t 44)))), 
  (.mk (some 46) none (.pure (.mv (.c (.i .i64 0)))))]) (.block 2 (.loop (.seq (.ops [
  (.mk (some 47) none (.pure (.bin .lss (.t 46) (.t 45))))]) (.seq (.cond (.t 47) .skip (.exit 2)) (.seq (.block 3 (.seq (.ops [
  (.mk (some 48) none (.pure (.mv (.t 46)))), 
  (.mk (some 13) none (.pure (.mv (.t 48))))]) (.ops [
  (.mk (some 49) none (.pure (.mv (.t 10)))), 
  (.mk (some 50) none (.pure (.mv (.t 13)))), 
  (.mk (some 51) none (.pure (.ixS 1 (.t 49) (.t 50)))), 
  (.mk (some 52) none (.ld true 1 (.t 51))), 
  (.mk (some 53) none (.pure (.mv (.t 13)))), 
  (.mk (some 54) none (.pure (.ixS 1 (.t 52) (.t 53)))), 
  (.mk (some 55) none (.ld true 1 (.t 54))), 
  (.mk (some 56) none (.pure (.mv (.t 12)))), 
  (.mk (some 57) none (.pure (.bin .sub (.t 55) (.t 56)))), 
  (.mk (some 58) none (.pure (.ixS 1 (.t 52) (.t 53)))), 
  (.mk none none (.st 1 (.t 58) (.t 57)))]))) (.ops [
  (.mk (some 59) none (.pure (.bin .add (.t 46) (.c (.i .i64 1))))), 
  (.mk (some 46) none (.pure (.mv (.t 59))))]))))))) (.ops [
  (.mk (some 60) none (.pure (.mv (.t 9)))), 
  (.mk (some 61) none (.pure (.mv (.t 11)))), 
  (.mk (some 62) none (.pure (.mv (.t 12)))), 
  (.mk (some 63) none (.pure (.ixS 1 (.t 60) (.t 61)))), 
  (.mk none none (.st 1 (.t 63) (.t 62)))])))))) (.ops [
  (.mk (some 64) none (.pure (.bin .add (.t 33) (.c (.i .i64 1))))), 
  (.mk (some 33) none (.pure (.mv (.t 64))))]))))))) (.seq (.ops [
  (.mk (some 65) none (.pure (.mv (.t 9)))), 
  (.mk (some 4) none (.pure (.mv (.t 65)))), 
  (.mk (some 5) none (.pure (.mv (.c (.i .i64 0)))))]) .ret)))))))))
def fn42 : AFn := (AFn.mk 22 [(.t 4)] (.seq (.ops [
  (.mk (some 4) none (.pure (.mv (.c (.i .i64 0)))))]) (.seq (.ops [
  (.mk (some 6) none (.pure (.mv (.t 0)))), 
  (.mk (some 7) none (.call 46 [(.t 6)])), 
  (.mk (some 5) none (.pure (.mv (.t 7))))]) (.seq (.seq (.ops [
  (.mk (some 8) none (.pure (.mv (.t 5)))), 
  (.mk (some 9) none (.pure (.bin .eql (.t 8) (.c (.i .i64 0))))), 
  (.mk (some 10) none (.pure (.mv (.t 9)))), 
  (.mk (some 11) (some (10, true)) (.pure (.mv (.t 1)))), 
  (.mk (some 12) (some (10, true)) (.pure (.len true (.t 11)))), 
  (.mk (some 13) (some (10, true)) (.pure (.bin .gtr (.t 12) (.c (.i .i64 30))))), 
  (.mk (some 14) (some (10, true)) (.pure (.mv (.t 13)))), 
  (.mk (some 15) (some (14, false)) (.pure (.mv (.t 0)))), 
  (.mk (some 16) (some (14, false)) (.pure (.mv (.t 1)))), 
  (.mk (some 17) (some (14, false)) (.call 85 [(.t 15), (.t 16)])), 
  (.mk (some 18) (some (14, false)) (.pure (.not (.t 17)))), 
  (.mk (some 19) (some (10, true)) (.pure (.pick (.t 14) (.c (.b true)) (.t 18)))), 
  (.mk (some 20) none (.pure (.pick (.t 10) (.t 19) (.c (.b false)))))]) (.cond (.t 20) (.ops [
  (.mk (some 5) none (.pure (.mv (.c (.i .i64 5)))))]) .skip)) (.seq (.ops [
  (.mk (some 21) none (.pure (.mv (.t 5)))), 
  (.mk (some 4) none (.pure (.mv (.t 21))))]) .ret)))))
def fn46 : AFn := (AFn.mk 33 [(.t 2)] (.seq (.ops [
  (.mk (some 2) none (.pure (.mv (.c (.i .i64 0)))))]) (.seq (.seq (.ops [
  (.mk (some 4) none (.pure (.mv (.t 0)))), 
  (.mk (some 5) none (.pure (.len false (.t 4)))), 
  (.mk (some 6) none (.pure (.bin .lss (.t 5) (.c (.i .i64 1))))), 
  (.mk (some 7) none (.pure (.mv (.t 6)))), 
  (.mk (some 8) (some (7, false)) (.pure (.mv (.t 0)))), 
  (.mk (some 9) (some (7, false)) (.pure (.len false (.t 8)))), 
  (.mk (some 10) (some (7, false)) (.pure (.bin .gtr (.t 9) (.c (.i .i64 6))))), 
  (.mk (some 11) none (.pure (.pick (.t 7) (.c (.b true)) (.t 10))))]) (.cond (.t 11) (.seq (.ops [
  (.mk (some 2) none (.pure (.mv (.c (.i .i64 2)))))]) .ret) .skip)) (.seq (.seq (.ops [
  (.mk (some 3) none (.pure (.mv (.c (.i .i64 0)))))]) (.block 0 (.loop (.seq (.seq (.ops [
  (.mk (some 12) none (.pure (.mv (.t 3)))), 
  (.mk (some 13) none (.pure (.mv (.t 0)))), 
  (.mk (some 14) none (.pure (.len false (.t 13)))), 
  (.mk (some 15) none (.pure (.bin .lss (.t 12) (.t 14))))]) (.cond (.t 15) .skip (.exit 0))) (.seq (.block 1 (.seq (.ops [
  (.mk (some 18) none (.pure (.mv (.t 0)))), 
  (.mk (some 19) none (.pure (.mv (.t 3)))), 
  (.mk (some 20) none (.pure (.ixS 1 (.t 18) (.t 19)))), 
  (.mk (some 21) none (.ld true 1 (.t 20))), 
  (.mk (some 22) none (.pure (.len true (.t 21)))), 
  (.mk (some 23) none (.pure (.bin .gtr (.t 22) (.c (.i .i64 8))))), 
  (.mk (some 24) none (.pure (.mv (.t 23)))), 
  (.mk (some 25) (some (24, false)) (.pure (.mv (.t 0)))), 
  (.mk (some 26) (some (24, false)) (.pure (.mv (.t 0)))), 
  (.mk (some 27) (some (24, false)) (.pure (.mv (.t 3)))), 
  (.mk (some 28) (some (24, false)) (.pure (.ixS 1 (.t 26) (.t 27)))), 
  (.mk (some 29) (some (24, false)) (.ld true 1 (.t 28))), 
  (.mk (some 30) (some (24, false)) (.call 85 [(.t 25), (.t 29)])), 
  (.mk (some 31) (some (24, false)) (.pure (.not (.t 30)))), 
  (.mk (some 32) none (.pure (.pick (.t 24) (.c (.b true)) (.t 31))))]) (.cond (.t 32) (.seq (.ops [
  (.mk (some 2) none (.pure (.mv (.c (.i .i64 5)))))]) .ret) .skip))) (.ops [
  (.mk (some 16) none (.pure (.mv (.t 3)))), 
  (.mk (some 17) none (.pure (.bin .add (.t 16) (.c (.i .i64 1))))), 
  (.mk (some 3) none (.pure (.mv (.t 17))))])))))) (.seq (.ops [
  (.mk (some 2) none (.pure (.mv (.c (.i .i64 0)))))]) .ret)))))
def fn47 : AFn := (AFn.mk 26 [(.t 6), (.t 7)] (.seq (.ops [
  (.mk (some 6) none (.pure (.mv (.c .nsl)))), 
  (.mk (some 7) none (.pure (.mv (.c (.i .i64 0)))))]) (.seq (.ops [
  (.mk (some 11) none (.pure (.mv (.t 0)))), 
  (.mk (some 12) none (.pure (.mv (.t 1)))), 
  (.mk (some 13) none (.call 60 [(.t 11), (.t 12)])), 
  (.mk (some 10) none (.pure (.mv (.t 13)))), 
  (.mk (some 14) none (.pure (.ext 0 (.t 10)))), 
  (.mk (some 15) none (.pure (.ext 1 (.t 10)))), 
  (.mk (some 8) none (.pure (.mv (.t 14)))), 
  (.mk (some 9) none (.pure (.mv (.t 15))))]) (.seq (.seq (.ops [
  (.mk (some 16) none (.pure (.mv (.t 9)))), 
  (.mk (some 17) none (.pure (.bin .neq (.t 16) (.c (.i .i64 0)))))]) (.cond (.t 17) (.seq (.ops [
  (.mk (some 18) none (.pure (.mv (.t 9)))), 
  (.mk (some 6) none (.pure (.mv (.c .nsl)))), 
  (.mk (some 7) none (.pure (.mv (.t 18))))]) .ret) .skip)) (.seq (.seq (.ops [
  (.mk (some 19) none (.pure (.mv (.t 2)))), 
  (.mk (some 20) none (.pure (.bin .lss (.t 19) (.c (.i .i64 0))))), 
  (.mk (some 21) none (.pure (.mv (.t 20)))), 
  (.mk (some 22) (some (21, false)) (.pure (.mv (.t 2)))), 
  (.mk (some 23) (some (21, false)) (.pure (.bin .gtr (.t 22) (.c (.i .i64 1000))))), 
  (.mk (some 24) none (.pure (.pick (.t 21) (.c (.b true)) (.t 23))))]) (.cond (.t 24) (.seq (.ops [
  (.mk (some 6) none (.pure (.mv (.c .nsl)))), 
  (.mk (some 7) none (.pure (.mv (.c (.i .i64 3)))))]) .ret) .skip)) (.seq (.ops [
  (.mk (some 25) none (.pure (.mv (.t 8)))), 
  (.mk (some 6) none (.pure (.mv (.t 25)))), 
  (.mk (some 7) none (.pure (.mv (.c (.i .i64 0)))))]) .ret))))))
def fn48 : AFn := (AFn.mk 40 [(.t 4)] (.seq (.ops [
  (.mk (some 4) none (.pure (.mv (.c .nsl))))]) (.seq (.ops [
  (.mk (some 9) none (.pure (.mv (.t 0)))), 
  (.mk (some 10) none (.call 55 [(.t 9), (.c (.fn 56 [] []))])), 
  (.mk (some 5) none (.pure (.mv (.t 10))))]) (.seq (.ops [
  (.mk (some 11) none (.pure (.mv (.t 0)))), 
  (.mk (some 12) none (.pure (.len false (.t 11)))), 
  (.mk (some 13) none (.mk 61 1 8 [(.i .u64 0)] (.t 12) (.t 12))), 
  (.mk (some 6) none (.pure (.mv (.t 13))))]) (.seq (.seq (.ops [
  (.mk (some 14) none (.pure (.mv (.t 6)))), 
  (.mk (some 15) none (.pure (.len false (.t 14)))), 
  (.mk (some 16) none (.pure (.mv (.c (.i .i64 0)))))]) (.block 0 (.loop (.seq (.ops [
  (.mk (some 17) none (.pure (.bin .lss (.t 16) (.t 15))))]) (.seq (.cond (.t 17) .skip (.exit 0)) (.seq (.block 1 (.seq (.ops [
  (.mk (some 18) none (.pure (.mv (.t 16)))), 
  (.mk (some 7) none (.pure (.mv (.t 18))))]) (.ops [
  (.mk (some 19) none (.pure (.mv (.t 6)))), 
  (.mk (some 20) none (.pure (.mv (.t 7)))), 
  (.mk (some 21) none (.pure (.ixS 1 (.t 19) (.t 20)))), 
  (.mk none none (.st 1 (.t 21) (.c (.i .u64 1))))]))) (.ops [
  (.mk (some 22) none (.pure (.bin .add (.t 16) (.c (.i .i64 1))))), 
  (.mk (some 16) none (.pure (.mv (.t 22))))]))))))) (.seq (.ops [
  (.mk (some 23) none (.pure (.mv (.t 6)))), 
  (.mk (some 24) none (.bsl 63 1 [.nsl] 1 [((0, 1), (.t 23))])), 
  (.mk (some 8) none (.pure (.mv (.t 24))))]) (.seq (.seq (.ops [
  (.mk (some 25) none (.pure (.mv (.t 1)))), 
  (.mk (some 26) none (.pure (.mv (.c (.i .i64 0)))))]) (.block 2 (.loop (.seq (.ops [
  (.mk (some 27) none (.pure (.bin .lss (.t 26) (.t 25))))]) (.seq (.cond (.t 27) .skip (.exit 2)) (.seq (.block 3 (.seq (.ops [
  (.mk (some 28) none (.pure (.mv (.t 6)))), 
  (.mk (some 29) none (.bsl 63 1 [.nsl] 1 [((0, 1), (.t 28))])), 
  (.mk (some 30) none (.pure (.mv (.t 5)))), 
  (.mk (some 31) none (.call 57 [(.t 29), (.t 30)])), 
  (.mk (some 32) none (.pure (.ixS 1 (.t 31) (.c (.i .i64 0))))), 
  (.mk (some 33) none (.ld true 1 (.t 32))), 
  (.mk (some 6) none (.pure (.mv (.t 33))))]) (.ops [
  (.mk (some 34) none (.pure (.mv (.t 8)))), 
  (.mk (some 35) none (.pure (.mv (.t 6)))), 
  (.mk (some 36) none (.bsl 63 1 [.nsl] 1 [((0, 1), (.t 35))])), 
  (.mk (some 37) none (.app 63 1 24 [.nsl] (.t 34) (.t 36))), 
  (.mk (some 8) none (.pure (.mv (.t 37))))]))) (.ops [
  (.mk (some 38) none (.pure (.bin .add (.t 26) (.c (.i .i64 1))))), 
  (.mk (some 26) none (.pure (.mv (.t 38))))]))))))) (.seq (.ops [
  (.mk (some 39) none (.pure (.mv (.t 8)))), 
  (.mk (some 4) none (.pure (.mv (.t 39))))]) .ret))))))))
def fn49 : AFn := (AFn.mk 23 [(.t 4)] (.seq (.ops [
  (.mk (some 4) none (.pure (.mv (.c (.i .u64 0)))))]) (.seq (.ops [
  (.mk (some 5) none (.pure (.mv (.c (.i .u64 0)))))]) (.seq (.seq (.ops [
  (.mk (some 7) none (.pure (.mv (.t 1)))), 
  (.mk (some 8) none (.pure (.len true (.t 7)))), 
  (.mk (some 9) none (.pure (.mv (.c (.i .i64 0)))))]) (.block 0 (.loop (.seq (.ops [
  (.mk (some 10) none (.pure (.bin .lss (.t 9) (.t 8))))]) (.seq (.cond (.t 10) .skip (.exit 0)) (.seq (.block 1 (.seq (.ops [
  (.mk (some 11) none (.pure (.mv (.t 9)))), 
  (.mk (some 6) none (.pure (.mv (.t 11))))]) (.ops [
  (.mk (some 12) none (.pure (.mv (.t 5)))), 
  (.mk (some 13) none (.pure (.mv (.t 0)))), 
  (.mk (some 14) none (.pure (.mv (.t 1)))), 
  (.mk (some 15) none (.pure (.mv (.t 6)))), 
  (.mk (some 16) none (.pure (.ixStr (.t 14) (.t 15)))), 
  (.mk (some 17) none (.call 54 [(.t 16)])), 
  (.mk (some 18) none (.pure (.ixS 1 (.t 13) (.t 17)))), 
  (.mk (some 19) none (.ld true 1 (.t 18))), 
  (.mk (some 20) none (.call 86 [(.t 12), (.t 19)])), 
  (.mk (some 5) none (.pure (.mv (.t 20))))]))) (.ops [
  (.mk (some 21) none (.pure (.bin .add (.t 9) (.c (.i .i64 1))))), 
  (.mk (some 9) none (.pure (.mv (.t 21))))]))))))) (.seq (.ops [
  (.mk (some 22) none (.pure (.mv (.t 5)))), 
  (.mk (some 4) none (.pure (.mv (.t 22))))]) .ret)))))
def fn50 : AFn := (AFn.mk 20 [(.t 6)] (.seq (.ops [
  (.mk (some 6) none (.pure (.mv (.c (.s [])))))]) (.seq (.ops [
  (.mk (some 7) none (.al 52 [.nsl]))]) (.seq (.seq (.ops [
  (.mk (some 9) none (.pure (.mv (.t 0)))), 
  (.mk (some 10) none (.pure (.mv (.t 1)))), 
  (.mk (some 11) none (.pure (.mv (.t 2)))), 
  (.mk (some 12) none (.call 59 [(.t 9), (.c (.i .u64 0)), (.t 10), (.t 11)]))]) (.block 0 (.rng (.t 12) [13] (.ops [
  (.mk (some 8) none (.pure (.mv (.t 13))))]) (.block 1 (.ops [
  (.mk (some 14) none (.ld true 1 (.t 7))), 
  (.mk (some 15) none (.pure (.mv (.t 8)))), 
  (.mk (some 16) none (.bsl 5 1 [(.i .u8 0)] 1 [((0, 1), (.t 15))])), 
  (.mk (some 17) none (.app 5 1 1 [(.i .u8 0)] (.t 14) (.t 16))), 
  (.mk none none (.st 1 (.t 7) (.t 17)))]))))) (.seq (.ops [
  (.mk (some 18) none (.ld true 1 (.t 7))), 
  (.mk (some 19) none (.bts (.t 18))), 
  (.mk (some 6) none (.pure (.mv (.t 19))))]) .ret)))))
def fn51 : AFn := (AFn.mk 66 [(.t 4)] (.seq (.ops [
  (.mk (some 4) none (.pure (.mv (.c .nsl))))]) (.seq (.ops [
  (.mk (some 5) none (.pure (.mv (.c .nsl))))]) (.seq (.seq (.ops [
  (.mk (some 6) none (.pure (.mv (.c (.i .i64 0)))))]) (.block 0 (.loop (.seq (.seq (.ops [
  (.mk (some 10) none (.pure (.mv (.t 6)))), 
  (.mk (some 11) none (.pure (.mv (.t 1)))), 
  (.mk (some 12) none (.pure (.bin .leq (.t 10) (.t 11))))]) (.cond (.t 12) .skip (.exit 0))) (.seq (.block 1 (.seq (.ops [
  (.mk (some 15) none (.pure (.mv (.t 0)))), 
  (.mk (some 16) none (.pure (.len false (.t 15)))), 
  (.mk (some 17) none (.mk 60 1 8 [(.i .u64 0)] (.t 16) (.t 16))), 
  (.mk (some 7) none (.pure (.mv (.t 17))))]) (.seq (.seq (.ops [
  (.mk (some 8) none (.pure (.mv (.c (.i .i64 0)))))]) (.block 2 (.loop (.seq (.seq (.ops [
  (.mk (some 18) none (.pure (.mv (.t 8)))), 
  (.mk (some 19) none (.pure (.mv (.t 0)))), 
  (.mk (some 20) none (.pure (.len false (.t 19)))), 
  (.mk (some 21) none (.pure (.bin .lss (.t 18) (.t 20))))]) (.cond (.t 21) .skip (.exit 2))) (.seq (.block 3 (.seq (.seq (.ops [
  (.mk (some 24) none (.pure (.mv (.t 6)))), 
  (.mk (some 25) none (.pure (.bin .eql (.t 24) (.c (.i .i64 0)))))]) (.cond (.t 25) (.seq (.ops [
  (.mk (some 26) none (.pure (.mv (.t 7)))), 
  (.mk (some 27) none (.pure (.mv (.t 8)))), 
  (.mk (some 28) none (.pure (.ixS 1 (.t 26) (.t 27)))), 
  (.mk none none (.st 1 (.t 28) (.c (.i .u64 1))))]) (.exit 3)) .skip)) (.seq (.ops [
  (.mk (some 9) none (.pure (.mv (.c (.i .i64 0)))))]) (.block 4 (.loop (.seq (.seq (.ops [
  (.mk (some 29) none (.pure (.mv (.t 9)))), 
  (.mk (some 30) none (.pure (.mv (.t 0)))), 
  (.mk (some 31) none (.pure (.mv (.t 8)))), 
  (.mk (some 32) none (.pure (.ixS 1 (.t 30) (.t 31)))), 
  (.mk (some 33) none (.ld true 1 (.t 32))), 
  (.mk (some 34) none (.pure (.len true (.t 33)))), 
  (.mk (some 35) none (.pure (.bin .lss (.t 29) (.t 34))))]) (.cond (.t 35) .skip (.exit 4))) (.seq (.block 5 (.flt [(
  (.mk (some 38) none (.pure (.mv (.t 7)))), false), (
  (.mk (some 39) none (.pure (.mv (.t 8)))), false), (
  (.mk (some 40) none (.pure (.mv (.t 7)))), false), (
  (.mk (some 41) none (.pure (.mv (.t 8)))), false), (
  (.mk (some 42) none (.pure (.ixS 1 (.t 40) (.t 41)))), false), (
  (.mk (some 43) none (.ld true 1 (.t 42))), false), (
  (.mk (some 44) none (.pure (.mv (.t 5)))), false), (
  (.mk (some 45) none (.pure (.mv (.t 6)))), false), (
  (.mk (some 46) none (.pure (.bin .sub (.t 45) (.c (.i .i64 1))))), false), (
  (.mk (some 47) none (.pure (.ixS 1 (.t 44) (.t 46)))), false), (
  (.mk (some 48) none (.ld true 1 (.t 47))), false), (
  (.mk (some 49) none (.pure (.mv (.t 0)))), false), (
  (.mk (some 50) none (.pure (.mv (.t 8)))), false), (
  (.mk (some 51) none (.pure (.ixS 1 (.t 49) (.t 50)))), false), (
  (.mk (some 52) none (.ld true 1 (.t 51))), false), (
  (.mk (some 53) none (.pure (.mv (.t 9)))), false), (
  (.mk (some 54) none (.pure (.ixStr (.t 52) (.t 53)))), false), (
  (.mk (some 55) none (.pure (.bin .sub (.t 54) (.c (.i .u8 97))))), false), (
  (.mk (some 56) none (.pure (.conv .i64 (.t 55)))), false), (
  (.mk (some 57) none (.pure (.ixS 1 (.t 48) (.t 56)))), false), (
  (.mk (some 58) none (.ld true 1 (.t 57))), false), (
  (.mk (some 59) none (.call 87 [(.t 43), (.t 58)])), false), (
  (.mk (some 60) none (.pure (.ixS 1 (.t 38) (.t 39)))), false), (
  (.mk none none (.st 1 (.t 60) (.t 59))), false)])) (.ops [
  (.mk (some 36) none (.pure (.mv (.t 9)))), 
  (.mk (some 37) none (.pure (.bin .add (.t 36) (.c (.i .i64 1))))), 
  (.mk (some 9) none (.pure (.mv (.t 37))))])))))))) (.ops [
  (.mk (some 22) none (.pure (.mv (.t 8)))), 
  (.mk (some 23) none (.pure (.bin .add (.t 22) (.c (.i .i64 1))))), 
  (.mk (some 8) none (.pure (.mv (.t 23))))])))))) (.ops [
  (.mk (some 61) none (.pure (.mv (.t 5)))), 
  (.mk (some 62) none (.pure (.mv (.t 7)))), 
  (.mk (some 63) none (.bsl 68 1 [.nsl] 1 [((0, 1), (.t 62))])), 
  (.mk (some 64) none (.app 68 1 24 [.nsl] (.t 61) (.t 63))), 
  (.mk (some 5) none (.pure (.mv (.t 64))))])))) (.ops [
  (.mk (some 13) none (.pure (.mv (.t 6)))), 
  (.mk (some 14) none (.pure (.bin .add (.t 13) (.c (.i .i64 1))))), 
  (.mk (some 6) none (.pure (.mv (.t 14))))])))))) (.seq (.ops [
  (.mk (some 65) none (.pure (.mv (.t 5)))), 
  (.mk (some 4) none (.pure (.mv (.t 65))))]) .ret)))))
def fn52 : AFn := (AFn.mk 24 [(.t 4)] (.seq (.ops [
  (.mk (some 4) none (.pure (.mv (.c (.i .u64 0)))))]) (.seq (.ops [
  (.mk (some 5) none (.pure (.mv (.c (.i .u64 0)))))]) (.seq (.seq (.ops [
  (.mk (some 6) none (.pure (.mv (.c (.i .i64 0)))))]) (.block 0 (.loop (.seq (.seq (.ops [
  (.mk (some 7) none (.pure (.mv (.t 6)))), 
  (.mk (some 8) none (.pure (.mv (.t 0)))), 
  (.mk (some 9) none (.pure (.len true (.t 8)))), 
  (.mk (some 10) none (.pure (.bin .lss (.t 7) (.t 9))))]) (.cond (.t 10) .skip (.exit 0))) (.seq (.block 1 (.ops [
  (.mk (some 13) none (.pure (.mv (.t 5)))), 
  (.mk (some 14) none (.pure (.mv (.t 1)))), 
  (.mk (some 15) none (.pure (.mv (.t 0)))), 
  (.mk (some 16) none (.pure (.mv (.t 6)))), 
  (.mk (some 17) none (.pure (.ixStr (.t 15) (.t 16)))), 
  (.mk (some 18) none (.pure (.bin .sub (.t 17) (.c (.i .u8 97))))), 
  (.mk (some 19) none (.pure (.conv .i64 (.t 18)))), 
  (.mk (some 20) none (.pure (.ixS 1 (.t 14) (.t 19)))), 
  (.mk (some 21) none (.ld true 1 (.t 20))), 
  (.mk (some 22) none (.call 87 [(.t 13), (.t 21)])), 
  (.mk (some 5) none (.pure (.mv (.t 22))))])) (.ops [
  (.mk (some 11) none (.pure (.mv (.t 6)))), 
  (.mk (some 12) none (.pure (.bin .add (.t 11) (.c (.i .i64 1))))), 
  (.mk (some 6) none (.pure (.mv (.t 12))))])))))) (.seq (.ops [
  (.mk (some 23) none (.pure (.mv (.t 5)))), 
  (.mk (some 4) none (.pure (.mv (.t 23))))]) .ret)))))
def fn53 : AFn := (AFn.mk 48 [(.t 10)] (.seq (.ops [
  (.mk (some 10) none (.pure (.mv (.c .nsl))))]) (.seq (.seq (.ops [
  (.mk (some 13) none (.pure (.mv (.t 3)))), 
  (.mk (some 14) none (.pure (.bin .eql (.t 13) (.c (.i .i64 0)))))]) (.cond (.t 14) (.seq (.ops [
  (.mk (some 15) none (.pure (.mv (.t 4)))), 
  (.mk (some 16) none (.pure (.mv (.t 2)))), 
  (.mk (some 17) none (.app 5 1 1 [(.i .u8 0)] (.t 15) (.t 16))), 
  (.mk (some 10) none (.pure (.mv (.t 17))))]) .ret) .skip)) (.seq (.seq (.ops [
  (.mk (some 11) none (.pure (.mv (.c (.i .i64 0)))))]) (.block 0 (.loop (.seq (.seq (.ops [
  (.mk (some 18) none (.pure (.mv (.t 11)))), 
  (.mk (some 19) none (.pure (.mv (.t 2)))), 
  (.mk (some 20) none (.pure (.len true (.t 19)))), 
  (.mk (some 21) none (.pure (.bin .lss (.t 18) (.t 20))))]) (.cond (.t 21) .skip (.exit 0))) (.seq (.block 1 (.seq (.ops [
  (.mk (some 24) none (.pure (.mv (.t 2)))), 
  (.mk (some 25) none (.pure (.mv (.t 11)))), 
  (.mk (some 26) none (.pure (.ixStr (.t 24) (.t 25)))), 
  (.mk (some 27) none (.pure (.bin .sub (.t 26) (.c (.i .u8 97))))), 
  (.mk (some 28) none (.pure (.conv .i64 (.t 27)))), 
  (.mk (some 12) none (.pure (.mv (.t 28))))]) (.seq (.ops [
  (.mk (some 29) none (.pure (.mv (.t 1)))), 
  (.mk (some 30) none (.pure (.mv (.t 3)))), 
  (.mk (some 31) none (.pure (.ixS 1 (.t 29) (.t 30)))), 
  (.mk (some 32) none (.ld true 1 (.t 31))), 
  (.mk (some 33) none (.pure (.mv (.t 12)))), 
  (.mk (some 34) none (.pure (.ixS 1 (.t 32) (.t 33)))), 
  (.mk (some 35) none (.ld true 1 (.t 34))), 
  (.mk (some 36) none (.pure (.bin .gtr (.t 35) (.c (.i .u64 0)))))]) (.cond (.t 36) (.ops [
  (.mk (some 37) none (.pure (.mv (.t 0)))), 
  (.mk (some 38) none (.pure (.mv (.t 1)))), 
  (.mk (some 39) none (.pure (.mv (.t 0)))), 
  (.mk (some 40) none (.pure (.mv (.t 12)))), 
  (.mk (some 41) none (.pure (.ixS 1 (.t 39) (.t 40)))), 
  (.mk (some 42) none (.ld true 1 (.t 41))), 
  (.mk (some 43) none (.pure (.mv (.t 3)))), 
  (.mk (some 44) none (.pure (.bin .sub (.t 43) (.c (.i .i64 1))))), 
  (.mk (some 45) none (.pure (.mv (.t 4)))), 
  (.mk (some 46) none (.call 53 [(.t 37), (.t 38), (.t 42), (.t 44), (.t 45)])), 
  (.mk (some 4) none (.pure (.mv (.t 46))))]) .skip)))) (.ops [
  (.mk (some 22) none (.pure (.mv (.t 11)))), 
  (.mk (some 23) none (.pure (.bin .add (.t 22) (.c (.i .i64 1))))), 
  (.mk (some 11) none (.pure (.mv (.t 23))))])))))) (.seq (.ops [
  (.mk (some 47) none (.pure (.mv (.t 4)))), 
  (.mk (some 10) none (.pure (.mv (.t 47))))]) .ret)))))
def fn54 : AFn := (AFn.mk 6 [(.t 2)] (.seq (.ops [
  (.mk (some 2) none (.pure (.mv (.c (.i .i64 0)))))]) (.seq (.ops [
  (.mk (some 3) none (.pure (.mv (.t 0)))), 
  (.mk (some 4) none (.pure (.conv .i64 (.t 3)))), 
  (.mk (some 5) none (.pure (.bin .sub (.t 4) (.c (.i .i64 97))))), 
  (.mk (some 2) none (.pure (.mv (.t 5))))]) .ret)))
def fn55 : AFn := (AFn.mk 41 [(.t 4)] (.seq (.ops [
  (.mk (some 4) none (.pure (.mv (.c .nsl))))]) (.seq (.ops [
  (.mk (some 9) none (.pure (.mv (.t 0)))), 
  (.mk (some 10) none (.pure (.len false (.t 9)))), 
  (.mk (some 11) none (.mk 63 1 24 [.nsl] (.t 10) (.t 10))), 
  (.mk (some 5) none (.pure (.mv (.t 11))))]) (.seq (.seq (.ops [
  (.mk (some 12) none (.pure (.mv (.t 0)))), 
  (.mk (some 13) none (.pure (.len false (.t 12)))), 
  (.mk (some 14) none (.pure (.mv (.c (.i .i64 0)))))]) (.block 0 (.loop (.seq (.ops [
  (.mk (some 15) none (.pure (.bin .lss (.t 14) (.t 13))))]) (.seq (.cond (.t 15) .skip (.exit 0)) (.seq (.block 1 (.seq (.ops [
  (.mk (some 16) none (.pure (.mv (.t 14)))), 
  (.mk (some 6) none (.pure (.mv (.t 16))))]) (.seq (.ops [
  (.mk (some 17) none (.pure (.mv (.t 0)))), 
  (.mk (some 18) none (.pure (.len false (.t 17)))), 
  (.mk (some 19) none (.pure (.mv (.c (.i .i64 0)))))]) (.block 2 (.loop (.seq (.ops [
  (.mk (some 20) none (.pure (.bin .lss (.t 19) (.t 18))))]) (.seq (.cond (.t 20) .skip (.exit 2)) (.seq (.block 3 (.seq (.ops [
  (.mk (some 21) none (.pure (.ixS 1 (.t 17) (.t 19)))), 
  (.mk (some 22) none (.ld true 1 (.t 21))), 
  (.mk (some 8) none (.pure (.mv (.t 22))))]) (.flt [(
  (.mk (some 23) none (.pure (.mv (.t 5)))), false), (
  (.mk (some 24) none (.pure (.mv (.t 6)))), false), (
  (.mk (some 25) none (.pure (.mv (.t 5)))), false), (
  (.mk (some 26) none (.pure (.mv (.t 6)))), false), (
  (.mk (some 27) none (.pure (.ixS 1 (.t 25) (.t 26)))), false), (
  (.mk (some 28) none (.ld true 1 (.t 27))), true), (
  (.mk (some 29) none (.pure (.mv (.t 1)))), false), (
  (.mk (some 30) none (.pure (.mv (.t 8)))), false), (
  (.mk (some 31) none (.pure (.mv (.t 6)))), false), (
  (.mk (some 32) none (.call 89 [(.t 31)])), false), (
  (.mk (some 33) none (.call 88 [(.t 30), (.t 32)])), false), (
  (.mk (some 34) none (.callv (.t 29) [(.t 33)])), false), (
  (.mk (some 35) none (.bsl 61 1 [(.i .u64 0)] 1 [((0, 1), (.t 34))])), false), (
  (.mk (some 36) none (.app 61 1 8 [(.i .u64 0)] (.t 28) (.t 35))), true), (
  (.mk (some 37) none (.pure (.ixS 1 (.t 23) (.t 24)))), false), (
  (.mk none none (.st 1 (.t 37) (.t 36))), true)]))) (.ops [
  (.mk (some 38) none (.pure (.bin .add (.t 19) (.c (.i .i64 1))))), 
  (.mk (some 19) none (.pure (.mv (.t 38))))]))))))))) (.ops [
  (.mk (some 39) none (.pure (.bin .add (.t 14) (.c (.i .i64 1))))), 
  (.mk (some 14) none (.pure (.mv (.t 39))))]))))))) (.seq (.ops [
  (.mk (some 40) none (.pure (.mv (.t 5)))), 
  (.mk (some 4) none (.pure (.mv (.t 40))))]) .ret)))))
def fn56 : AFn := (AFn.mk 5 [(.t 2)] (.seq (.ops [
  (.mk (some 2) none (.pure (.mv (.c (.i .u64 0)))))]) (.seq (.ops [
  (.mk (some 3) none (.pure (.mv (.t 0)))), 
  (.mk (some 4) none (.pure (.conv .u64 (.t 3)))), 
  (.mk (some 2) none (.pure (.mv (.t 4))))]) .ret)))
def fn57 : AFn := (AFn.mk 73 [(.t 4)] (.seq (.ops [
  (.mk (some 4) none (.pure (.mv (.c .nsl))))]) (.seq (.ops [
  (.mk (some 11) none (.pure (.mv (.t 0)))), 
  (.mk (some 12) none (.pure (.len false (.t 11)))), 
  (.mk (some 13) none (.mk 63 1 24 [.nsl] (.t 12) (.t 12))), 
  (.mk (some 5) none (.pure (.mv (.t 13))))]) (.seq (.seq (.ops [
  (.mk (some 14) none (.pure (.mv (.t 0)))), 
  (.mk (some 15) none (.pure (.len false (.t 14)))), 
  (.mk (some 16) none (.pure (.mv (.c (.i .i64 0)))))]) (.block 0 (.loop (.seq (.ops [
  (.mk (some 17) none (.pure (.bin .lss (.t 16) (.t 15))))]) (.seq (.cond (.t 17) .skip (.exit 0)) (.seq (.block 1 (.seq (.ops [
  (.mk (some 18) none (.pure (.mv (.t 16)))), 
  (.mk (some 19) none (.pure (.ixS 1 (.t 14) (.t 16)))), 
  (.mk (some 20) none (.ld true 1 (.t 19))), 
  (.mk (some 6) none (.pure (.mv (.t 18)))), 
  (.mk (some 7) none (.pure (.mv (.t 20))))]) (.seq (.ops [
  (.mk (some 21) none (.pure (.mv (.t 5)))), 
  (.mk (some 22) none (.pure (.mv (.t 6)))), 
  (.mk (some 23) none (.pure (.mv (.t 1)))), 
  (.mk (some 24) none (.pure (.ixS 1 (.t 23) (.c (.i .i64 0))))), 
  (.mk (some 25) none (.ld true 1 (.t 24))), 
  (.mk (some 26) none (.pure (.len false (.t 25)))), 
  (.mk (some 27) none (.mk 61 1 8 [(.i .u64 0)] (.t 26) (.t 26))), 
  (.mk (some 28) none (.pure (.ixS 1 (.t 21) (.t 22)))), 
  (.mk none none (.st 1 (.t 28) (.t 27)))]) (.seq (.ops [
  (.mk (some 29) none (.pure (.mv (.t 5)))), 
  (.mk (some 30) none (.pure (.mv (.t 6)))), 
  (.mk (some 31) none (.pure (.ixS 1 (.t 29) (.t 30)))), 
  (.mk (some 32) none (.ld true 1 (.t 31))), 
  (.mk (some 33) none (.pure (.len false (.t 32)))), 
  (.mk (some 34) none (.pure (.mv (.c (.i .i64 0)))))]) (.block 2 (.loop (.seq (.ops [
  (.mk (some 35) none (.pure (.bin .lss (.t 34) (.t 33))))]) (.seq (.cond (.t 35) .skip (.exit 2)) (.seq (.block 3 (.seq (.ops [
  (.mk (some 36) none (.pure (.mv (.t 34)))), 
  (.mk (some 8) none (.pure (.mv (.t 36))))]) (.seq (.ops [
  (.mk (some 37) none (.pure (.mv (.t 7)))), 
  (.mk (some 38) none (.pure (.len false (.t 37)))), 
  (.mk (some 39) none (.pure (.mv (.c (.i .i64 0)))))]) (.block 4 (.loop (.seq (.ops [
  (.mk (some 40) none (.pure (.bin .lss (.t 39) (.t 38))))]) (.seq (.cond (.t 40) .skip (.exit 4)) (.seq (.block 5 (.seq (.ops [
  (.mk (some 41) none (.pure (.mv (.t 39)))), 
  (.mk (some 42) none (.pure (.ixS 1 (.t 37) (.t 39)))), 
  (.mk (some 43) none (.ld true 1 (.t 42))), 
  (.mk (some 9) none (.pure (.mv (.t 41)))), 
  (.mk (some 10) none (.pure (.mv (.t 43))))]) (.flt [(
  (.mk (some 44) none (.pure (.mv (.t 5)))), false), (
  (.mk (some 45) none (.pure (.mv (.t 6)))), false), (
  (.mk (some 46) none (.pure (.ixS 1 (.t 44) (.t 45)))), false), (
  (.mk (some 47) none (.ld true 1 (.t 46))), true), (
  (.mk (some 48) none (.pure (.mv (.t 8)))), false), (
  (.mk (some 49) none (.pure (.mv (.t 5)))), false), (
  (.mk (some 50) none (.pure (.mv (.t 6)))), false), (
  (.mk (some 51) none (.pure (.ixS 1 (.t 49) (.t 50)))), false), (
  (.mk (some 52) none (.ld true 1 (.t 51))), true), (
  (.mk (some 53) none (.pure (.mv (.t 8)))), false), (
  (.mk (some 54) none (.pure (.ixS 1 (.t 52) (.t 53)))), false), (
  (.mk (some 55) none (.ld true 1 (.t 54))), true), (
  (.mk (some 56) none (.pure (.mki 61 (.t 55)))), false), (
  (.mk (some 57) none (.pure (.mv (.t 10)))), false), (
  (.mk (some 58) none (.pure (.mki 61 (.t 57)))), false), (
  (.mk (some 59) none (.pure (.mv (.t 1)))), false), (
  (.mk (some 60) none (.pure (.mv (.t 9)))), false), (
  (.mk (some 61) none (.pure (.ixS 1 (.t 59) (.t 60)))), false), (
  (.mk (some 62) none (.ld true 1 (.t 61))), false), (
  (.mk (some 63) none (.pure (.mv (.t 8)))), false), (
  (.mk (some 64) none (.pure (.ixS 1 (.t 62) (.t 63)))), false), (
  (.mk (some 65) none (.ld true 1 (.t 64))), false), (
  (.mk (some 66) none (.calli [(61, (126, [])), (106, (129, [])), (122, (131, []))] (.t 58) [(.t 65)])), false), (
  (.mk (some 67) none (.calli [(61, (86, [])), (106, (128, [])), (122, (130, []))] (.t 56) [(.t 66)])), false), (
  (.mk (some 68) none (.pure (.ixS 1 (.t 47) (.t 48)))), false), (
  (.mk none none (.st 1 (.t 68) (.t 67))), true)]))) (.ops [
  (.mk (some 69) none (.pure (.bin .add (.t 39) (.c (.i .i64 1))))), 
  (.mk (some 39) none (.pure (.mv (.t 69))))]))))))))) (.ops [
  (.mk (some 70) none (.pure (.bin .add (.t 34) (.c (.i .i64 1))))), 
  (.mk (some 34) none (.pure (.mv (.t 70))))])))))))))) (.ops [
  (.mk (some 71) none (.pure (.bin .add (.t 16) (.c (.i .i64 1))))), 
  (.mk (some 16) none (.pure (.mv (.t 71))))]))))))) (.seq (.ops [
  (.mk (some 72) none (.pure (.mv (.t 5)))), 
  (.mk (some 4) none (.pure (.mv (.t 72))))]) .ret)))))
def fn58 : AFn := (AFn.mk 78 [(.t 6)] (.seq (.ops [
  (.mk (some 6) none (.pure (.mv (.c .nsl))))]) (.seq (.ops [
  (.mk (some 14) none (.pure (.mv (.t 0)))), 
  (.mk (some 15) none (.pure (.len false (.t 14)))), 
  (.mk (some 16) none (.mk 60 1 8 [(.i .u64 0)] (.t 15) (.t 15))), 
  (.mk (some 7) none (.pure (.mv (.t 16))))]) (.seq (.seq (.ops [
  (.mk (some 8) none (.pure (.mv (.c (.i .i64 0)))))]) (.block 0 (.loop (.seq (.seq (.ops [
  (.mk (some 17) none (.pure (.mv (.t 8)))), 
  (.mk (some 18) none (.pure (.mv (.t 1)))), 
  (.mk (some 19) none (.pure (.len true (.t 18)))), 
  (.mk (some 20) none (.pure (.bin .lss (.t 17) (.t 19))))]) (.cond (.t 20) .skip (.exit 0))) (.seq (.block 1 (.ops [
  (.mk (some 23) none (.pure (.mv (.t 7)))), 
  (.mk (some 24) none (.pure (.mv (.t 1)))), 
  (.mk (some 25) none (.pure (.mv (.t 8)))), 
  (.mk (some 26) none (.pure (.ixStr (.t 24) (.t 25)))), 
  (.mk (some 27) none (.pure (.bin .sub (.t 26) (.c (.i .u8 97))))), 
  (.mk (some 28) none (.pure (.conv .i64 (.t 27)))), 
  (.mk (some 29) none (.pure (.ixS 1 (.t 23) (.t 28)))), 
  (.mk (some 30) none (.ld true 1 (.t 29))), 
  (.mk (some 31) none (.pure (.bin .add (.t 30) (.c (.i .u64 1))))), 
  (.mk (some 32) none (.pure (.ixS 1 (.t 23) (.t 28)))), 
  (.mk none none (.st 1 (.t 32) (.t 31)))])) (.ops [
  (.mk (some 21) none (.pure (.mv (.t 8)))), 
  (.mk (some 22) none (.pure (.bin .add (.t 21) (.c (.i .i64 1))))), 
  (.mk (some 8) none (.pure (.mv (.t 22))))])))))) (.seq (.seq (.ops [
  (.mk (some 9) none (.pure (.mv (.c (.i .i64 0)))))]) (.block 2 (.loop (.seq (.seq (.ops [
  (.mk (some 33) none (.pure (.mv (.t 9)))), 
  (.mk (some 34) none (.pure (.mv (.t 2)))), 
  (.mk (some 35) none (.pure (.bin .lss (.t 33) (.t 34))))]) (.cond (.t 35) .skip (.exit 2))) (.seq (.block 3 (.seq (.ops [
  (.mk (some 38) none (.pure (.mv (.t 0)))), 
  (.mk (some 39) none (.pure (.len false (.t 38)))), 
  (.mk (some 40) none (.mk 60 1 8 [(.i .u64 0)] (.t 39) (.t 39))), 
  (.mk (some 10) none (.pure (.mv (.t 40))))]) (.seq (.seq (.ops [
  (.mk (some 11) none (.pure (.mv (.c (.i .i64 0)))))]) (.block 4 (.loop (.seq (.seq (.ops [
  (.mk (some 41) none (.pure (.mv (.t 11)))), 
  (.mk (some 42) none (.pure (.mv (.t 0)))), 
  (.mk (some 43) none (.pure (.len false (.t 42)))), 
  (.mk (some 44) none (.pure (.bin .lss (.t 41) (.t 43))))]) (.cond (.t 44) .skip (.exit 4))) (.seq (.block 5 (.seq (.ops [
  (.mk (some 12) none (.pure (.mv (.c (.i .i64 0)))))]) (.block 6 (.loop (.seq (.seq (.ops [
  (.mk (some 47) none (.pure (.mv (.t 12)))), 
  (.mk (some 48) none (.pure (.mv (.t 0)))), 
  (.mk (some 49) none (.pure (.mv (.t 11)))), 
  (.mk (some 50) none (.pure (.ixS 1 (.t 48) (.t 49)))), 
  (.mk (some 51) none (.ld true 1 (.t 50))), 
  (.mk (some 52) none (.pure (.len true (.t 51)))), 
  (.mk (some 53) none (.pure (.bin .lss (.t 47) (.t 52))))]) (.cond (.t 53) .skip (.exit 6))) (.seq (.block 7 (.seq (.ops [
  (.mk (some 56) none (.pure (.mv (.t 0)))), 
  (.mk (some 57) none (.pure (.mv (.t 11)))), 
  (.mk (some 58) none (.pure (.ixS 1 (.t 56) (.t 57)))), 
  (.mk (some 59) none (.ld true 1 (.t 58))), 
  (.mk (some 60) none (.pure (.mv (.t 12)))), 
  (.mk (some 61) none (.pure (.ixStr (.t 59) (.t 60)))), 
  (.mk (some 62) none (.pure (.bin .sub (.t 61) (.c (.i .u8 97))))), 
  (.mk (some 63) none (.pure (.conv .i64 (.t 62)))), 
  (.mk (some 13) none (.pure (.mv (.t 63))))]) (.flt [(
  (.mk (some 64) none (.pure (.mv (.t 10)))), false), (
  (.mk (some 65) none (.pure (.mv (.t 13)))), false), (
  (.mk (some 66) none (.pure (.mv (.t 10)))), false), (
  (.mk (some 67) none (.pure (.mv (.t 13)))), false), (
  (.mk (some 68) none (.pure (.ixS 1 (.t 66) (.t 67)))), false), (
  (.mk (some 69) none (.ld true 1 (.t 68))), false), (
  (.mk (some 70) none (.pure (.mv (.t 7)))), false), (
  (.mk (some 71) none (.pure (.mv (.t 11)))), false), (
  (.mk (some 72) none (.pure (.ixS 1 (.t 70) (.t 71)))), false), (
  (.mk (some 73) none (.ld true 1 (.t 72))), false), (
  (.mk (some 74) none (.call 87 [(.t 69), (.t 73)])), false), (
  (.mk (some 75) none (.pure (.ixS 1 (.t 64) (.t 65)))), false), (
  (.mk none none (.st 1 (.t 75) (.t 74))), false)]))) (.ops [
  (.mk (some 54) none (.pure (.mv (.t 12)))), 
  (.mk (some 55) none (.pure (.bin .add (.t 54) (.c (.i .i64 1))))), 
  (.mk (some 12) none (.pure (.mv (.t 55))))]))))))) (.ops [
  (.mk (some 45) none (.pure (.mv (.t 11)))), 
  (.mk (some 46) none (.pure (.bin .add (.t 45) (.c (.i .i64 1))))), 
  (.mk (some 11) none (.pure (.mv (.t 46))))])))))) (.ops [
  (.mk (some 76) none (.pure (.mv (.t 10)))), 
  (.mk (some 7) none (.pure (.mv (.t 76))))])))) (.ops [
  (.mk (some 36) none (.pure (.mv (.t 9)))), 
  (.mk (some 37) none (.pure (.bin .add (.t 36) (.c (.i .i64 1))))), 
  (.mk (some 9) none (.pure (.mv (.t 37))))])))))) (.seq (.ops [
  (.mk (some 77) none (.pure (.mv (.t 7)))), 
  (.mk (some 6) none (.pure (.mv (.t 77))))]) .ret))))))
def fn59 : AFn := (AFn.mk 10 [(.t 8)] (.seq (.ops [
  (.mk (some 4) none (.bx 55 1 (.t 0))), 
  (.mk (some 5) none (.bx 61 1 (.t 1))), 
  (.mk (some 6) none (.bx 9 1 (.t 2))), 
  (.mk (some 7) none (.bx 58 1 (.t 3))), 
  (.mk (some 8) none (.pure (.mv (.c .nfn))))]) (.seq (.ops [
  (.mk (some 9) none (.pure (.mkfn 90 [] [(.t 5), (.t 7), (.t 4), (.t 6)]))), 
  (.mk (some 8) none (.pure (.mv (.t 9))))]) .ret)))
def fn60 : AFn := (AFn.mk 26 [(.t 4), (.t 5)] (.seq (.ops [
  (.mk (some 4) none (.pure (.mv (.c .nsl)))), 
  (.mk (some 5) none (.pure (.mv (.c (.i .i64 0)))))]) (.seq (.ops [
  (.mk (some 9) none (.pure (.mv (.t 0)))), 
  (.mk (some 10) none (.call 71 [(.t 9)])), 
  (.mk (some 8) none (.pure (.mv (.t 10)))), 
  (.mk (some 11) none (.pure (.ext 0 (.t 8)))), 
  (.mk (some 12) none (.pure (.ext 1 (.t 8)))), 
  (.mk (some 6) none (.pure (.mv (.t 11)))), 
  (.mk (some 7) none (.pure (.mv (.t 12))))]) (.seq (.seq (.ops [
  (.mk (some 13) none (.pure (.mv (.t 7)))), 
  (.mk (some 14) none (.pure (.bin .neq (.t 13) (.c (.i .i64 0)))))]) (.cond (.t 14) (.seq (.ops [
  (.mk (some 15) none (.pure (.mv (.t 7)))), 
  (.mk (some 4) none (.pure (.mv (.c .nsl)))), 
  (.mk (some 5) none (.pure (.mv (.t 15))))]) .ret) .skip)) (.seq (.seq (.ops [
  (.mk (some 16) none (.pure (.mv (.t 1)))), 
  (.mk (some 17) none (.pure (.len true (.t 16)))), 
  (.mk (some 18) none (.pure (.bin .gtr (.t 17) (.c (.i .i64 30))))), 
  (.mk (some 19) none (.pure (.mv (.t 18)))), 
  (.mk (some 20) (some (19, false)) (.pure (.mv (.t 6)))), 
  (.mk (some 21) (some (19, false)) (.pure (.mv (.t 1)))), 
  (.mk (some 22) (some (19, false)) (.call 92 [(.t 20), (.t 21)])), 
  (.mk (some 23) (some (19, false)) (.pure (.not (.t 22)))), 
  (.mk (some 24) none (.pure (.pick (.t 19) (.c (.b true)) (.t 23))))]) (.cond (.t 24) (.seq (.ops [
  (.mk (some 4) none (.pure (.mv (.c .nsl)))), 
  (.mk (some 5) none (.pure (.mv (.c (.i .i64 5)))))]) .ret) .skip)) (.seq (.ops [
  (.mk (some 25) none (.pure (.mv (.t 6)))), 
  (.mk (some 4) none (.pure (.mv (.t 25)))), 
  (.mk (some 5) none (.pure (.mv (.c (.i .i64 0)))))]) .ret))))))
def fn61 : AFn := (AFn.mk 24 [(.t 4), (.t 5)] (.seq (.ops [
  (.mk (some 4) none (.pure (.mv (.c (.i .i64 0))))), 
  (.mk (some 5) none (.pure (.mv (.c (.b false)))))]) (.seq (.seq (.ops [
  (.mk (some 8) none (.pure (.mv (.t 0)))), 
  (.mk (some 9) none (.pure (.mv (.t 0)))), 
  (.mk (some 10) none (.pure (.len false (.t 9)))), 
  (.mk (some 11) none (.call 48 [(.t 8), (.t 10)])), 
  (.mk (some 12) none (.pure (.len false (.t 11)))), 
  (.mk (some 13) none (.pure (.mv (.c (.i .i64 0)))))]) (.block 0 (.loop (.seq (.ops [
  (.mk (some 14) none (.pure (.bin .lss (.t 13) (.t 12))))]) (.seq (.cond (.t 14) .skip (.exit 0)) (.seq (.block 1 (.seq (.ops [
  (.mk (some 15) none (.pure (.mv (.t 13)))), 
  (.mk (some 16) none (.pure (.ixS 1 (.t 11) (.t 13)))), 
  (.mk (some 17) none (.ld true 1 (.t 16))), 
  (.mk (some 6) none (.pure (.mv (.t 15)))), 
  (.mk (some 7) none (.pure (.mv (.t 17))))]) (.seq (.ops [
  (.mk (some 18) none (.pure (.mv (.t 7)))), 
  (.mk (some 19) none (.pure (.mv (.t 1)))), 
  (.mk (some 20) none (.call 49 [(.t 18), (.t 19)])), 
  (.mk (some 21) none (.pure (.bin .eql (.t 20) (.c (.i .u64 0)))))]) (.cond (.t 21) (.seq (.ops [
  (.mk (some 22) none (.pure (.mv (.t 6)))), 
  (.mk (some 4) none (.pure (.mv (.t 22)))), 
  (.mk (some 5) none (.pure (.mv (.c (.b true)))))]) .ret) .skip)))) (.ops [
  (.mk (some 23) none (.pure (.bin .add (.t 13) (.c (.i .i64 1))))), 
  (.mk (some 13) none (.pure (.mv (.t 23))))]))))))) (.seq (.ops [
  (.mk (some 4) none (.pure (.mv (.c (.i .i64 0))))), 
  (.mk (some 5) none (.pure (.mv (.c (.b false)))))]) .ret))))
def fn63 : AFn := (AFn.mk 31 [(.t 2)] (.seq (.ops [
  (.mk (some 2) none (.pure (.mv (.c .nsl))))]) (.seq (.ops [
  (.mk (some 6) none (.pure (.mv (.t 0)))), 
  (.mk (some 7) none (.call 93 [(.t 6), (.c (.fn 94 [] []))])), 
  (.mk (some 8) none (.pure (.mv (.t 0)))), 
  (.mk (some 9) none (.call 93 [(.t 8), (.c (.fn 94 [] []))])), 
  (.mk (some 3) none (.pure (.mv (.t 7)))), 
  (.mk (some 4) none (.pure (.mv (.t 9))))]) (.seq (.seq (.ops [
  (.mk (some 10) none (.pure (.mv (.t 4)))), 
  (.mk (some 11) none (.pure (.len false (.t 10)))), 
  (.mk (some 12) none (.pure (.mv (.c (.i .i64 0)))))]) (.block 0 (.loop (.seq (.ops [
  (.mk (some 13) none (.pure (.bin .lss (.t 12) (.t 11))))]) (.seq (.cond (.t 13) .skip (.exit 0)) (.seq (.block 1 (.seq (.ops [
  (.mk (some 14) none (.pure (.mv (.t 12)))), 
  (.mk (some 5) none (.pure (.mv (.t 14))))]) (.ops [
  (.mk (some 15) none (.pure (.mv (.t 4)))), 
  (.mk (some 16) none (.pure (.mv (.t 5)))), 
  (.mk (some 17) none (.pure (.ixS 1 (.t 15) (.t 16)))), 
  (.mk (some 18) none (.ld true 1 (.t 17))), 
  (.mk (some 19) none (.pure (.mv (.t 5)))), 
  (.mk (some 20) none (.pure (.ixS 1 (.t 18) (.t 19)))), 
  (.mk none none (.st 1 (.t 20) (.c (.b true))))]))) (.ops [
  (.mk (some 21) none (.pure (.bin .add (.t 12) (.c (.i .i64 1))))), 
  (.mk (some 12) none (.pure (.mv (.t 21))))]))))))) (.seq (.seq (.ops [
  (.mk (some 22) none (.pure (.mv (.t 0)))), 
  (.mk (some 23) none (.pure (.len false (.t 22)))), 
  (.mk (some 24) none (.pure (.mv (.c (.i .i64 0)))))]) (.block 2 (.loop (.seq (.ops [
  (.mk (some 25) none (.pure (.bin .lss (.t 24) (.t 23))))]) (.seq (.cond (.t 25) .skip (.exit 2)) (.seq (.block 3 (.ops [
  (.mk (some 26) none (.pure (.mv (.t 3)))), 
  (.mk (some 27) none (.pure (.mv (.t 4)))), 
  (.mk (some 28) none (.call 95 [(.t 26), (.t 27)])), 
  (.mk (some 3) none (.pure (.mv (.t 28))))])) (.ops [
  (.mk (some 29) none (.pure (.bin .add (.t 24) (.c (.i .i64 1))))), 
  (.mk (some 24) none (.pure (.mv (.t 29))))]))))))) (.seq (.ops [
  (.mk (some 30) none (.pure (.mv (.t 3)))), 
  (.mk (some 2) none (.pure (.mv (.t 30))))]) .ret))))))
def fn64 : AFn := (AFn.mk 31 [(.t 4)] (.seq (.ops [
  (.mk (some 2) none (.bx 85 2 (.t 0))), 
  (.mk (some 4) none (.pure (.mv (.c (.b false)))))]) (.seq (.seq (.ops [
  (.mk (some 6) none (.pure (.faddr 0 (.t 2)))), 
  (.mk (some 7) none (.ld true 1 (.t 6))), 
  (.mk (some 8) none (.pure (.len false (.t 7)))), 
  (.mk (some 9) none (.pure (.mv (.c (.i .i64 0)))))]) (.block 0 (.loop (.seq (.ops [
  (.mk (some 10) none (.pure (.bin .lss (.t 9) (.t 8))))]) (.seq (.cond (.t 10) .skip (.exit 0)) (.seq (.block 1 (.seq (.ops [
  (.mk (some 11) none (.pure (.mv (.t 9)))), 
  (.mk (some 5) none (.pure (.mv (.t 11))))]) (.seq (.ops [
  (.mk (some 12) none (.pure (.mv (.t 5)))), 
  (.mk (some 13) none (.pure (.mv (.t 1)))), 
  (.mk (some 14) none (.pure (.bin .eql (.t 12) (.t 13)))), 
  (.mk (some 15) none (.pure (.mv (.t 14)))), 
  (.mk (some 16) (some (15, false)) (.pure (.faddr 1 (.t 2)))), 
  (.mk (some 17) (some (15, false)) (.ld true 1 (.t 16))), 
  (.mk (some 18) (some (15, false)) (.pure (.mv (.t 5)))), 
  (.mk (some 19) (some (15, false)) (.pure (.ixS 1 (.t 17) (.t 18)))), 
  (.mk (some 20) (some (15, false)) (.ld true 1 (.t 19))), 
  (.mk (some 21) (some (15, false)) (.pure (.mv (.t 1)))), 
  (.mk (some 22) (some (15, false)) (.pure (.ixS 1 (.t 20) (.t 21)))), 
  (.mk (some 23) (some (15, false)) (.ld true 1 (.t 22))), 
  (.mk (some 24) none (.pure (.pick (.t 15) (.c (.b true)) (.t 23)))), 
  (.mk (some 25) none (.pure (.mv (.t 24)))), 
  (.mk (some 26) (some (25, true)) (.ld false 2 (.t 2))), 
  (.mk (some 27) (some (25, true)) (.pure (.mv (.t 5)))), 
  (.mk (some 28) (some (25, true)) (.call 96 [(.t 26), (.t 27)])), 
  (.mk (some 29) none (.pure (.pick (.t 25) (.t 28) (.c (.b false)))))]) (.cond (.t 29) (.seq (.ops [
  (.mk (some 4) none (.pure (.mv (.c (.b true)))))]) .ret) .skip)))) (.ops [
  (.mk (some 30) none (.pure (.bin .add (.t 9) (.c (.i .i64 1))))), 
  (.mk (some 9) none (.pure (.mv (.t 30))))]))))))) (.seq (.ops [
  (.mk (some 4) none (.pure (.mv (.c (.b false)))))]) .ret))))
def fn65 : AFn := (AFn.mk 49 [(.t 4)] (.seq (.ops [
  (.mk (some 2) none (.bx 85 2 (.t 0))), 
  (.mk (some 4) none (.pure (.mv (.c (.i .i64 0)))))]) (.seq (.ops [
  (.mk (some 5) none (.pure (.mv (.c (.i .i64 0)))))]) (.seq (.seq (.ops [
  (.mk (some 7) none (.pure (.faddr 0 (.t 2)))), 
  (.mk (some 8) none (.ld true 1 (.t 7))), 
  (.mk (some 9) none (.pure (.len false (.t 8)))), 
  (.mk (some 10) none (.pure (.mv (.c (.i .i64 0)))))]) (.block 0 (.loop (.seq (.ops [
  (.mk (some 11) none (.pure (.bin .lss (.t 10) (.t 9))))]) (.seq (.cond (.t 11) .skip (.exit 0)) (.seq (.block 1 (.seq (.ops [
  (.mk (some 12) none (.pure (.mv (.t 10)))), 
  (.mk (some 6) none (.pure (.mv (.t 12))))]) (.seq (.ops [
  (.mk (some 13) none (.pure (.faddr 1 (.t 2)))), 
  (.mk (some 14) none (.ld true 1 (.t 13))), 
  (.mk (some 15) none (.pure (.mv (.t 6)))), 
  (.mk (some 16) none (.pure (.ixS 1 (.t 14) (.t 15)))), 
  (.mk (some 17) none (.ld true 1 (.t 16))), 
  (.mk (some 18) none (.pure (.mv (.t 1)))), 
  (.mk (some 19) none (.pure (.ixS 1 (.t 17) (.t 18)))), 
  (.mk (some 20) none (.ld true 1 (.t 19))), 
  (.mk (some 21) none (.pure (.mv (.t 20)))), 
  (.mk (some 22) (some (21, true)) (.pure (.faddr 1 (.t 2)))), 
  (.mk (some 23) (some (21, true)) (.ld true 1 (.t 22))), 
  (.mk (some 24) (some (21, true)) (.pure (.mv (.t 1)))), 
  (.mk (some 25) (some (21, true)) (.pure (.ixS 1 (.t 23) (.t 24)))), 
  (.mk (some 26) (some (21, true)) (.ld true 1 (.t 25))), 
  (.mk (some 27) (some (21, true)) (.pure (.mv (.t 6)))), 
  (.mk (some 28) (some (21, true)) (.pure (.ixS 1 (.t 26) (.t 27)))), 
  (.mk (some 29) (some (21, true)) (.ld true 1 (.t 28))), 
  (.mk (some 30) (some (21, true)) (.pure (.not (.t 29)))), 
  (.mk (some 31) none (.pure (.pick (.t 21) (.t 30) (.c (.b false)))))]) (.cond (.t 31) (.ops [
  (.mk (some 32) none (.pure (.mv (.t 5)))), 
  (.mk (some 33) none (.ld false 2 (.t 2))), 
  (.mk (some 34) none (.pure (.mv (.t 6)))), 
  (.mk (some 35) none (.call 65 [(.t 33), (.t 34)])), 
  (.mk (some 36) none (.pure (.mx true (.t 32) (.t 35)))), 
  (.mk (some 5) none (.pure (.mv (.t 36))))]) .skip)))) (.ops [
  (.mk (some 37) none (.pure (.bin .add (.t 10) (.c (.i .i64 1))))), 
  (.mk (some 10) none (.pure (.mv (.t 37))))]))))))) (.seq (.seq (.ops [
  (.mk (some 38) none (.pure (.faddr 1 (.t 2)))), 
  (.mk (some 39) none (.ld true 1 (.t 38))), 
  (.mk (some 40) none (.pure (.mv (.t 1)))), 
  (.mk (some 41) none (.pure (.ixS 1 (.t 39) (.t 40)))), 
  (.mk (some 42) none (.ld true 1 (.t 41))), 
  (.mk (some 43) none (.pure (.mv (.t 1)))), 
  (.mk (some 44) none (.pure (.ixS 1 (.t 42) (.t 43)))), 
  (.mk (some 45) none (.ld true 1 (.t 44)))]) (.cond (.t 45) (.ops [
  (.mk (some 46) none (.pure (.mv (.t 5)))), 
  (.mk (some 47) none (.pure (.bin .add (.t 46) (.c (.i .i64 1))))), 
  (.mk (some 5) none (.pure (.mv (.t 47))))]) .skip)) (.seq (.ops [
  (.mk (some 48) none (.pure (.mv (.t 5)))), 
  (.mk (some 4) none (.pure (.mv (.t 48))))]) .ret))))))
def fn71 : AFn := (AFn.mk 33 [(.t 2), (.t 3)] (.seq (.ops [
  (.mk (some 2) none (.pure (.mv (.c .nsl)))), 
  (.mk (some 3) none (.pure (.mv (.c (.i .i64 0)))))]) (.seq (.seq (.ops [
  (.mk (some 7) none (.pure (.mv (.t 0)))), 
  (.mk (some 8) none (.pure (.len false (.t 7)))), 
  (.mk (some 9) none (.pure (.bin .lss (.t 8) (.c (.i .i64 1))))), 
  (.mk (some 10) none (.pure (.mv (.t 9)))), 
  (.mk (some 11) (some (10, false)) (.pure (.mv (.t 0)))), 
  (.mk (some 12) (some (10, false)) (.pure (.len false (.t 11)))), 
  (.mk (some 13) (some (10, false)) (.pure (.bin .gtr (.t 12) (.c (.i .i64 6))))), 
  (.mk (some 14) none (.pure (.pick (.t 10) (.c (.b true)) (.t 13))))]) (.cond (.t 14) (.seq (.ops [
  (.mk (some 2) none (.pure (.mv (.c .nsl)))), 
  (.mk (some 3) none (.pure (.mv (.c (.i .i64 2)))))]) .ret) .skip)) (.seq (.ops [
  (.mk (some 15) none (.pure (.mv (.t 0)))), 
  (.mk (some 4) none (.pure (.mv (.t 15))))]) (.seq (.seq (.ops [
  (.mk (some 16) none (.pure (.mv (.t 4)))), 
  (.mk (some 17) none (.pure (.len false (.t 16)))), 
  (.mk (some 18) none (.pure (.mv (.c (.i .i64 0)))))]) (.block 0 (.loop (.seq (.ops [
  (.mk (some 19) none (.pure (.bin .lss (.t 18) (.t 17))))]) (.seq (.cond (.t 19) .skip (.exit 0)) (.seq (.block 1 (.seq (.ops [
  (.mk (some 20) none (.pure (.ixS 1 (.t 16) (.t 18)))), 
  (.mk (some 21) none (.ld true 1 (.t 20))), 
  (.mk (some 6) none (.pure (.mv (.t 21))))]) (.seq (.ops [
  (.mk (some 22) none (.pure (.mv (.t 6)))), 
  (.mk (some 23) none (.pure (.len true (.t 22)))), 
  (.mk (some 24) none (.pure (.bin .gtr (.t 23) (.c (.i .i64 8))))), 
  (.mk (some 25) none (.pure (.mv (.t 24)))), 
  (.mk (some 26) (some (25, false)) (.pure (.mv (.t 4)))), 
  (.mk (some 27) (some (25, false)) (.pure (.mv (.t 6)))), 
  (.mk (some 28) (some (25, false)) (.call 92 [(.t 26), (.t 27)])), 
  (.mk (some 29) (some (25, false)) (.pure (.not (.t 28)))), 
  (.mk (some 30) none (.pure (.pick (.t 25) (.c (.b true)) (.t 29))))]) (.cond (.t 30) (.seq (.ops [
  (.mk (some 2) none (.pure (.mv (.c .nsl)))), 
  (.mk (some 3) none (.pure (.mv (.c (.i .i64 5)))))]) .ret) .skip)))) (.ops [
  (.mk (some 31) none (.pure (.bin .add (.t 18) (.c (.i .i64 1))))), 
  (.mk (some 18) none (.pure (.mv (.t 31))))]))))))) (.seq (.ops [
  (.mk (some 32) none (.pure (.mv (.t 4)))), 
  (.mk (some 2) none (.pure (.mv (.t 32)))), 
  (.mk (some 3) none (.pure (.mv (.c (.i .i64 0)))))]) .ret))))))
def fn72 : AFn := (AFn.mk 29 [(.t 4)] (.seq (.ops [
  (.mk (some 4) none (.pure (.mv (.c (.b false)))))]) (.seq (.flt [(
  (.mk (some 10) none (.pure (.mv (.t 0)))), false), (
  (.mk (some 11) none (.pure (.mv (.t 1)))), false), (
  (.mk (some 12) none (.pure (.ixS 1 (.t 10) (.t 11)))), false), (
  (.mk (some 13) none (.ld true 1 (.t 12))), true), (
  (.mk (some 14) none (.pure (.mv (.t 1)))), false), (
  (.mk (some 15) none (.call 89 [(.t 14)])), false), (
  (.mk (some 16) none (.call 97 [(.t 13), (.t 15)])), true), (
  (.mk (some 9) none (.pure (.mv (.t 16)))), false), (
  (.mk (some 17) none (.pure (.ext 0 (.t 9)))), false), (
  (.mk (some 18) none (.pure (.ext 1 (.t 9)))), false), (
  (.mk (some 5) none (.pure (.mv (.t 17)))), false), (
  (.mk (some 6) none (.pure (.mv (.t 18)))), false)]) (.seq (.seq (.ops [
  (.mk (some 19) none (.pure (.mv (.t 6)))), 
  (.mk (some 20) none (.pure (.not (.t 19))))]) (.cond (.t 20) (.seq (.ops [
  (.mk (some 4) none (.pure (.mv (.c (.b false)))))]) .ret) .skip)) (.seq (.ops [
  (.mk (some 22) none (.pure (.mv (.t 0)))), 
  (.mk (some 23) none (.pure (.mv (.t 5)))), 
  (.mk (some 24) none (.call 61 [(.t 22), (.t 23)])), 
  (.mk (some 21) none (.pure (.mv (.t 24)))), 
  (.mk (some 25) none (.pure (.ext 0 (.t 21)))), 
  (.mk (some 26) none (.pure (.ext 1 (.t 21)))), 
  (.mk (some 7) none (.pure (.mv (.t 25)))), 
  (.mk (some 8) none (.pure (.mv (.t 26))))]) (.seq (.ops [
  (.mk (some 27) none (.pure (.mv (.t 8)))), 
  (.mk (some 28) none (.pure (.not (.t 27)))), 
  (.mk (some 4) none (.pure (.mv (.t 28))))]) .ret))))))
def fn74 : AFn := (AFn.mk 36 [(.t 4), (.t 5), (.t 6)] (.seq (.ops [
  (.mk (some 4) none (.pure (.mv (.c .nsl)))), 
  (.mk (some 5) none (.pure (.mv (.c (.i .i64 0))))), 
  (.mk (some 6) none (.pure (.mv (.c (.i .i64 0)))))]) (.seq (.ops [
  (.mk (some 11) none (.pure (.mv (.t 0)))), 
  (.mk (some 12) none (.call 71 [(.t 11)])), 
  (.mk (some 10) none (.pure (.mv (.t 12)))), 
  (.mk (some 13) none (.pure (.ext 0 (.t 10)))), 
  (.mk (some 14) none (.pure (.ext 1 (.t 10)))), 
  (.mk (some 7) none (.pure (.mv (.t 13)))), 
  (.mk (some 8) none (.pure (.mv (.t 14))))]) (.seq (.seq (.ops [
  (.mk (some 15) none (.pure (.mv (.t 8)))), 
  (.mk (some 16) none (.pure (.bin .neq (.t 15) (.c (.i .i64 0)))))]) (.cond (.t 16) (.seq (.ops [
  (.mk (some 17) none (.pure (.mv (.t 8)))), 
  (.mk (some 4) none (.pure (.mv (.c .nsl)))), 
  (.mk (some 5) none (.pure (.mv (.c (.i .i64 0))))), 
  (.mk (some 6) none (.pure (.mv (.t 17))))]) .ret) .skip)) (.seq (.seq (.ops [
  (.mk (some 18) none (.pure (.mv (.t 1)))), 
  (.mk (some 19) none (.pure (.len true (.t 18)))), 
  (.mk (some 20) none (.pure (.bin .neq (.t 19) (.c (.i .i64 1))))), 
  (.mk (some 21) none (.pure (.mv (.t 20)))), 
  (.mk (some 22) (some (21, false)) (.pure (.mv (.t 7)))), 
  (.mk (some 23) (some (21, false)) (.pure (.mv (.t 1)))), 
  (.mk (some 24) (some (21, false)) (.call 92 [(.t 22), (.t 23)])), 
  (.mk (some 25) (some (21, false)) (.pure (.not (.t 24)))), 
  (.mk (some 26) none (.pure (.pick (.t 21) (.c (.b true)) (.t 25))))]) (.cond (.t 26) (.seq (.ops [
  (.mk (some 4) none (.pure (.mv (.c .nsl)))), 
  (.mk (some 5) none (.pure (.mv (.c (.i .i64 0))))), 
  (.mk (some 6) none (.pure (.mv (.c (.i .i64 5)))))]) .ret) .skip)) (.seq (.ops [
  (.mk (some 27) none (.pure (.mv (.t 1)))), 
  (.mk (some 28) none (.pure (.ixStr (.t 27) (.c (.i .i64 0))))), 
  (.mk (some 29) none (.call 54 [(.t 28)])), 
  (.mk (some 9) none (.pure (.mv (.t 29))))]) (.seq (.seq (.ops [
  (.mk (some 30) none (.pure (.mv (.t 7)))), 
  (.mk (some 31) none (.pure (.mv (.t 9)))), 
  (.mk (some 32) none (.call 72 [(.t 30), (.t 31)])), 
  (.mk (some 33) none (.pure (.not (.t 32))))]) (.cond (.t 33) (.seq (.ops [
  (.mk (some 4) none (.pure (.mv (.c .nsl)))), 
  (.mk (some 5) none (.pure (.mv (.c (.i .i64 0))))), 
  (.mk (some 6) none (.pure (.mv (.c (.i .i64 10)))))]) .ret) .skip)) (.seq (.ops [
  (.mk (some 34) none (.pure (.mv (.t 7)))), 
  (.mk (some 35) none (.pure (.mv (.t 9)))), 
  (.mk (some 4) none (.pure (.mv (.t 34)))), 
  (.mk (some 5) none (.pure (.mv (.t 35)))), 
  (.mk (some 6) none (.pure (.mv (.c (.i .i64 0)))))]) .ret))))))))
def fn75 : AFn := (AFn.mk 6 [(.t 4)] (.seq (.ops [
  (.mk (some 2) none (.bx 55 1 (.t 0))), 
  (.mk (some 3) none (.bx 3 1 (.t 1))), 
  (.mk (some 4) none (.pure (.mv (.c .nfn))))]) (.seq (.ops [
  (.mk (some 5) none (.pure (.mkfn 98 [] [(.t 2), (.t 3)]))), 
  (.mk (some 4) none (.pure (.mv (.t 5))))]) .ret)))
def fn79 : AFn := (AFn.mk 41 [(.t 4)] (.seq (.ops [
  (.mk (some 4) none (.pure (.mv (.c .nsl))))]) (.seq (.ops [
  (.mk (some 9) none (.pure (.mv (.t 0)))), 
  (.mk (some 10) none (.pure (.len false (.t 9)))), 
  (.mk (some 11) none (.mk 111 1 24 [.nsl] (.t 10) (.t 10))), 
  (.mk (some 5) none (.pure (.mv (.t 11))))]) (.seq (.seq (.ops [
  (.mk (some 12) none (.pure (.mv (.t 0)))), 
  (.mk (some 13) none (.pure (.len false (.t 12)))), 
  (.mk (some 14) none (.pure (.mv (.c (.i .i64 0)))))]) (.block 0 (.loop (.seq (.ops [
  (.mk (some 15) none (.pure (.bin .lss (.t 14) (.t 13))))]) (.seq (.cond (.t 15) .skip (.exit 0)) (.seq (.block 1 (.seq (.ops [
  (.mk (some 16) none (.pure (.mv (.t 14)))), 
  (.mk (some 6) none (.pure (.mv (.t 16))))]) (.seq (.ops [
  (.mk (some 17) none (.pure (.mv (.t 0)))), 
  (.mk (some 18) none (.pure (.len false (.t 17)))), 
  (.mk (some 19) none (.pure (.mv (.c (.i .i64 0)))))]) (.block 2 (.loop (.seq (.ops [
  (.mk (some 20) none (.pure (.bin .lss (.t 19) (.t 18))))]) (.seq (.cond (.t 20) .skip (.exit 2)) (.seq (.block 3 (.seq (.ops [
  (.mk (some 21) none (.pure (.ixS 1 (.t 17) (.t 19)))), 
  (.mk (some 22) none (.ld true 1 (.t 21))), 
  (.mk (some 8) none (.pure (.mv (.t 22))))]) (.flt [(
  (.mk (some 23) none (.pure (.mv (.t 5)))), false), (
  (.mk (some 24) none (.pure (.mv (.t 6)))), false), (
  (.mk (some 25) none (.pure (.mv (.t 5)))), false), (
  (.mk (some 26) none (.pure (.mv (.t 6)))), false), (
  (.mk (some 27) none (.pure (.ixS 1 (.t 25) (.t 26)))), false), (
  (.mk (some 28) none (.ld true 1 (.t 27))), true), (
  (.mk (some 29) none (.pure (.mv (.t 1)))), false), (
  (.mk (some 30) none (.pure (.mv (.t 8)))), false), (
  (.mk (some 31) none (.pure (.mv (.t 6)))), false), (
  (.mk (some 32) none (.call 89 [(.t 31)])), false), (
  (.mk (some 33) none (.call 88 [(.t 30), (.t 32)])), false), (
  (.mk (some 34) none (.callv (.t 29) [(.t 33)])), false), (
  (.mk (some 35) none (.bsl 106 1 [(.i .i64 0)] 1 [((0, 1), (.t 34))])), false), (
  (.mk (some 36) none (.app 106 1 8 [(.i .i64 0)] (.t 28) (.t 35))), true), (
  (.mk (some 37) none (.pure (.ixS 1 (.t 23) (.t 24)))), false), (
  (.mk none none (.st 1 (.t 37) (.t 36))), true)]))) (.ops [
  (.mk (some 38) none (.pure (.bin .add (.t 19) (.c (.i .i64 1))))), 
  (.mk (some 19) none (.pure (.mv (.t 38))))]))))))))) (.ops [
  (.mk (some 39) none (.pure (.bin .add (.t 14) (.c (.i .i64 1))))), 
  (.mk (some 14) none (.pure (.mv (.t 39))))]))))))) (.seq (.ops [
  (.mk (some 40) none (.pure (.mv (.t 5)))), 
  (.mk (some 4) none (.pure (.mv (.t 40))))]) .ret)))))
def fn80 : AFn := (AFn.mk 4 [(.t 2)] (.seq (.ops [
  (.mk (some 2) none (.pure (.mv (.c (.i .i64 0)))))]) (.seq (.ops [
  (.mk (some 3) none (.pure (.mv (.t 0)))), 
  (.mk (some 2) none (.pure (.mv (.t 3))))]) .ret)))
def fn81 : AFn := (AFn.mk 25 [(.t 2)] (.seq (.ops [
  (.mk (some 2) none (.pure (.mv (.c .nsl))))]) (.seq (.ops [
  (.mk (some 5) none (.pure (.mv (.t 0)))), 
  (.mk (some 6) none (.mk 111 1 24 [.nsl] (.t 5) (.t 5))), 
  (.mk (some 3) none (.pure (.mv (.t 6))))]) (.seq (.seq (.ops [
  (.mk (some 7) none (.pure (.mv (.t 3)))), 
  (.mk (some 8) none (.pure (.len false (.t 7)))), 
  (.mk (some 9) none (.pure (.mv (.c (.i .i64 0)))))]) (.block 0 (.loop (.seq (.ops [
  (.mk (some 10) none (.pure (.bin .lss (.t 9) (.t 8))))]) (.seq (.cond (.t 10) .skip (.exit 0)) (.seq (.block 1 (.seq (.ops [
  (.mk (some 11) none (.pure (.mv (.t 9)))), 
  (.mk (some 4) none (.pure (.mv (.t 11))))]) (.seq (.ops [
  (.mk (some 12) none (.pure (.mv (.t 3)))), 
  (.mk (some 13) none (.pure (.mv (.t 4)))), 
  (.mk (some 14) none (.pure (.mv (.t 0)))), 
  (.mk (some 15) none (.mk 106 1 8 [(.i .i64 0)] (.t 14) (.t 14))), 
  (.mk (some 16) none (.pure (.ixS 1 (.t 12) (.t 13)))), 
  (.mk none none (.st 1 (.t 16) (.t 15)))]) (.ops [
  (.mk (some 17) none (.pure (.mv (.t 3)))), 
  (.mk (some 18) none (.pure (.mv (.t 4)))), 
  (.mk (some 19) none (.pure (.ixS 1 (.t 17) (.t 18)))), 
  (.mk (some 20) none (.ld true 1 (.t 19))), 
  (.mk (some 21) none (.pure (.mv (.t 4)))), 
  (.mk (some 22) none (.pure (.ixS 1 (.t 20) (.t 21)))), 
  (.mk none none (.st 1 (.t 22) (.c (.i .i64 1))))])))) (.ops [
  (.mk (some 23) none (.pure (.bin .add (.t 9) (.c (.i .i64 1))))), 
  (.mk (some 9) none (.pure (.mv (.t 23))))]))))))) (.seq (.ops [
  (.mk (some 24) none (.pure (.mv (.t 3)))), 
  (.mk (some 2) none (.pure (.mv (.t 24))))]) .ret)))))
def fn82 : AFn := (AFn.mk 73 [(.t 4)] (.seq (.ops [
  (.mk (some 4) none (.pure (.mv (.c .nsl))))]) (.seq (.ops [
  (.mk (some 11) none (.pure (.mv (.t 0)))), 
  (.mk (some 12) none (.pure (.len false (.t 11)))), 
  (.mk (some 13) none (.mk 111 1 24 [.nsl] (.t 12) (.t 12))), 
  (.mk (some 5) none (.pure (.mv (.t 13))))]) (.seq (.seq (.ops [
  (.mk (some 14) none (.pure (.mv (.t 0)))), 
  (.mk (some 15) none (.pure (.len false (.t 14)))), 
  (.mk (some 16) none (.pure (.mv (.c (.i .i64 0)))))]) (.block 0 (.loop (.seq (.ops [
  (.mk (some 17) none (.pure (.bin .lss (.t 16) (.t 15))))]) (.seq (.cond (.t 17) .skip (.exit 0)) (.seq (.block 1 (.seq (.ops [
  (.mk (some 18) none (.pure (.mv (.t 16)))), 
  (.mk (some 19) none (.pure (.ixS 1 (.t 14) (.t 16)))), 
  (.mk (some 20) none (.ld true 1 (.t 19))), 
  (.mk (some 6) none (.pure (.mv (.t 18)))), 
  (.mk (some 7) none (.pure (.mv (.t 20))))]) (.seq (.ops [
  (.mk (some 21) none (.pure (.mv (.t 5)))), 
  (.mk (some 22) none (.pure (.mv (.t 6)))), 
  (.mk (some 23) none (.pure (.mv (.t 1)))), 
  (.mk (some 24) none (.pure (.ixS 1 (.t 23) (.c (.i .i64 0))))), 
  (.mk (some 25) none (.ld true 1 (.t 24))), 
  (.mk (some 26) none (.pure (.len false (.t 25)))), 
  (.mk (some 27) none (.mk 106 1 8 [(.i .i64 0)] (.t 26) (.t 26))), 
  (.mk (some 28) none (.pure (.ixS 1 (.t 21) (.t 22)))), 
  (.mk none none (.st 1 (.t 28) (.t 27)))]) (.seq (.ops [
  (.mk (some 29) none (.pure (.mv (.t 5)))), 
  (.mk (some 30) none (.pure (.mv (.t 6)))), 
  (.mk (some 31) none (.pure (.ixS 1 (.t 29) (.t 30)))), 
  (.mk (some 32) none (.ld true 1 (.t 31))), 
  (.mk (some 33) none (.pure (.len false (.t 32)))), 
  (.mk (some 34) none (.pure (.mv (.c (.i .i64 0)))))]) (.block 2 (.loop (.seq (.ops [
  (.mk (some 35) none (.pure (.bin .lss (.t 34) (.t 33))))]) (.seq (.cond (.t 35) .skip (.exit 2)) (.seq (.block 3 (.seq (.ops [
  (.mk (some 36) none (.pure (.mv (.t 34)))), 
  (.mk (some 8) none (.pure (.mv (.t 36))))]) (.seq (.ops [
  (.mk (some 37) none (.pure (.mv (.t 7)))), 
  (.mk (some 38) none (.pure (.len false (.t 37)))), 
  (.mk (some 39) none (.pure (.mv (.c (.i .i64 0)))))]) (.block 4 (.loop (.seq (.ops [
  (.mk (some 40) none (.pure (.bin .lss (.t 39) (.t 38))))]) (.seq (.cond (.t 40) .skip (.exit 4)) (.seq (.block 5 (.seq (.ops [
  (.mk (some 41) none (.pure (.mv (.t 39)))), 
  (.mk (some 42) none (.pure (.ixS 1 (.t 37) (.t 39)))), 
  (.mk (some 43) none (.ld true 1 (.t 42))), 
  (.mk (some 9) none (.pure (.mv (.t 41)))), 
  (.mk (some 10) none (.pure (.mv (.t 43))))]) (.flt [(
  (.mk (some 44) none (.pure (.mv (.t 5)))), false), (
  (.mk (some 45) none (.pure (.mv (.t 6)))), false), (
  (.mk (some 46) none (.pure (.ixS 1 (.t 44) (.t 45)))), false), (
  (.mk (some 47) none (.ld true 1 (.t 46))), true), (
  (.mk (some 48) none (.pure (.mv (.t 8)))), false), (
  (.mk (some 49) none (.pure (.mv (.t 5)))), false), (
  (.mk (some 50) none (.pure (.mv (.t 6)))), false), (
  (.mk (some 51) none (.pure (.ixS 1 (.t 49) (.t 50)))), false), (
  (.mk (some 52) none (.ld true 1 (.t 51))), true), (
  (.mk (some 53) none (.pure (.mv (.t 8)))), false), (
  (.mk (some 54) none (.pure (.ixS 1 (.t 52) (.t 53)))), false), (
  (.mk (some 55) none (.ld true 1 (.t 54))), true), (
  (.mk (some 56) none (.pure (.mki 106 (.t 55)))), false), (
  (.mk (some 57) none (.pure (.mv (.t 10)))), false), (
  (.mk (some 58) none (.pure (.mki 106 (.t 57)))), false), (
  (.mk (some 59) none (.pure (.mv (.t 1)))), false), (
  (.mk (some 60) none (.pure (.mv (.t 9)))), false), (
  (.mk (some 61) none (.pure (.ixS 1 (.t 59) (.t 60)))), false), (
  (.mk (some 62) none (.ld true 1 (.t 61))), false), (
  (.mk (some 63) none (.pure (.mv (.t 8)))), false), (
  (.mk (some 64) none (.pure (.ixS 1 (.t 62) (.t 63)))), false), (
  (.mk (some 65) none (.ld true 1 (.t 64))), false), (
  (.mk (some 66) none (.calli [(61, (126, [])), (106, (129, [])), (122, (131, []))] (.t 58) [(.t 65)])), false), (
  (.mk (some 67) none (.calli [(61, (86, [])), (106, (128, [])), (122, (130, []))] (.t 56) [(.t 66)])), false), (
  (.mk (some 68) none (.pure (.ixS 1 (.t 47) (.t 48)))), false), (
  (.mk none none (.st 1 (.t 68) (.t 67))), true)]))) (.ops [
  (.mk (some 69) none (.pure (.bin .add (.t 39) (.c (.i .i64 1))))), 
  (.mk (some 39) none (.pure (.mv (.t 69))))]))))))))) (.ops [
  (.mk (some 70) none (.pure (.bin .add (.t 34) (.c (.i .i64 1))))), 
  (.mk (some 34) none (.pure (.mv (.t 70))))])))))))))) (.ops [
  (.mk (some 71) none (.pure (.bin .add (.t 16) (.c (.i .i64 1))))), 
  (.mk (some 16) none (.pure (.mv (.t 71))))]))))))) (.seq (.ops [
  (.mk (some 72) none (.pure (.mv (.t 5)))), 
  (.mk (some 4) none (.pure (.mv (.t 72))))]) .ret)))))
def fn83 : AFn := (AFn.mk 21 [(.t 2)] (.seq (.ops [
  (.mk (some 2) none (.pure (.mv (.c (.i .i64 0)))))]) (.seq (.ops [
  (.mk (some 3) none (.pure (.mv (.c (.i .i64 0)))))]) (.seq (.seq (.ops [
  (.mk (some 5) none (.pure (.mv (.t 0)))), 
  (.mk (some 6) none (.pure (.len false (.t 5)))), 
  (.mk (some 7) none (.pure (.mv (.c (.i .i64 0)))))]) (.block 0 (.loop (.seq (.ops [
  (.mk (some 8) none (.pure (.bin .lss (.t 7) (.t 6))))]) (.seq (.cond (.t 8) .skip (.exit 0)) (.seq (.block 1 (.seq (.ops [
  (.mk (some 9) none (.pure (.mv (.t 7)))), 
  (.mk (some 4) none (.pure (.mv (.t 9))))]) (.ops [
  (.mk (some 10) none (.pure (.mv (.t 3)))), 
  (.mk (some 11) none (.pure (.mv (.t 0)))), 
  (.mk (some 12) none (.pure (.mv (.t 4)))), 
  (.mk (some 13) none (.pure (.ixS 1 (.t 11) (.t 12)))), 
  (.mk (some 14) none (.ld true 1 (.t 13))), 
  (.mk (some 15) none (.pure (.mv (.t 4)))), 
  (.mk (some 16) none (.pure (.ixS 1 (.t 14) (.t 15)))), 
  (.mk (some 17) none (.ld true 1 (.t 16))), 
  (.mk (some 18) none (.pure (.bin .add (.t 10) (.t 17)))), 
  (.mk (some 3) none (.pure (.mv (.t 18))))]))) (.ops [
  (.mk (some 19) none (.pure (.bin .add (.t 7) (.c (.i .i64 1))))), 
  (.mk (some 7) none (.pure (.mv (.t 19))))]))))))) (.seq (.ops [
  (.mk (some 20) none (.pure (.mv (.t 3)))), 
  (.mk (some 2) none (.pure (.mv (.t 20))))]) .ret)))))
def fn85 : AFn := (AFn.mk 26 [(.t 4)] (.seq (.ops [
  (.mk (some 4) none (.pure (.mv (.c (.b false)))))]) (.seq (.seq (.ops [
  (.mk (some 5) none (.pure (.mv (.c (.i .i64 0)))))]) (.block 0 (.loop (.seq (.seq (.ops [
  (.mk (some 6) none (.pure (.mv (.t 5)))), 
  (.mk (some 7) none (.pure (.mv (.t 1)))), 
  (.mk (some 8) none (.pure (.len true (.t 7)))), 
  (.mk (some 9) none (.pure (.bin .lss (.t 6) (.t 8))))]) (.cond (.t 9) .skip (.exit 0))) (.seq (.block 1 (.seq (.ops [
  (.mk (some 12) none (.pure (.mv (.t 1)))), 
  (.mk (some 13) none (.pure (.mv (.t 5)))), 
  (.mk (some 14) none (.pure (.ixStr (.t 12) (.t 13)))), 
  (.mk (some 15) none (.pure (.bin .lss (.t 14) (.c (.i .u8 97))))), 
  (.mk (some 16) none (.pure (.mv (.t 15)))), 
  (.mk (some 17) (some (16, false)) (.pure (.mv (.t 1)))), 
  (.mk (some 18) (some (16, false)) (.pure (.mv (.t 5)))), 
  (.mk (some 19) (some (16, false)) (.pure (.ixStr (.t 17) (.t 18)))), 
  (.mk (some 20) (some (16, false)) (.pure (.bin .sub (.t 19) (.c (.i .u8 97))))), 
  (.mk (some 21) (some (16, false)) (.pure (.conv .i64 (.t 20)))), 
  (.mk (some 22) (some (16, false)) (.pure (.mv (.t 0)))), 
  (.mk (some 23) (some (16, false)) (.pure (.len false (.t 22)))), 
  (.mk (some 24) (some (16, false)) (.pure (.bin .geq (.t 21) (.t 23)))), 
  (.mk (some 25) none (.pure (.pick (.t 16) (.c (.b true)) (.t 24))))]) (.cond (.t 25) (.seq (.ops [
  (.mk (some 4) none (.pure (.mv (.c (.b false)))))]) .ret) .skip))) (.ops [
  (.mk (some 10) none (.pure (.mv (.t 5)))), 
  (.mk (some 11) none (.pure (.bin .add (.t 10) (.c (.i .i64 1))))), 
  (.mk (some 5) none (.pure (.mv (.t 11))))])))))) (.seq (.ops [
  (.mk (some 4) none (.pure (.mv (.c (.b true)))))]) .ret))))
def fn86 : AFn := (AFn.mk 12 [(.t 4)] (.seq (.ops [
  (.mk (some 4) none (.pure (.mv (.c (.i .u64 0)))))]) (.seq (.seq (.ops [
  (.mk (some 5) none (.pure (.mv (.t 0)))), 
  (.mk (some 6) none (.pure (.mv (.t 1)))), 
  (.mk (some 7) none (.pure (.bin .sub (.c (.i .u64 9223372036854775808)) (.t 6)))), 
  (.mk (some 8) none (.pure (.bin .gtr (.t 5) (.t 7))))]) (.cond (.t 8) (.seq (.ops [
  (.mk (some 4) none (.pure (.mv (.c (.i .u64 9223372036854775808)))))]) .ret) .skip)) (.seq (.ops [
  (.mk (some 9) none (.pure (.mv (.t 0)))), 
  (.mk (some 10) none (.pure (.mv (.t 1)))), 
  (.mk (some 11) none (.pure (.bin .add (.t 9) (.t 10)))), 
  (.mk (some 4) none (.pure (.mv (.t 11))))]) .ret))))
def fn87 : AFn := (AFn.mk 12 [(.t 4)] (.seq (.ops [
  (.mk (some 4) none (.pure (.mv (.c (.i .u64 0)))))]) (.seq (.seq (.ops [
  (.mk (some 5) none (.pure (.mv (.t 0)))), 
  (.mk (some 6) none (.pure (.mv (.t 1)))), 
  (.mk (some 7) none (.pure (.bin .sub (.c (.i .u64 9223372036854775808)) (.t 6)))), 
  (.mk (some 8) none (.pure (.bin .geq (.t 5) (.t 7))))]) (.cond (.t 8) (.seq (.ops [
  (.mk (some 4) none (.pure (.mv (.c (.i .u64 9223372036854775808)))))]) .ret) .skip)) (.seq (.ops [
  (.mk (some 9) none (.pure (.mv (.t 0)))), 
  (.mk (some 10) none (.pure (.mv (.t 1)))), 
  (.mk (some 11) none (.pure (.bin .add (.t 9) (.t 10)))), 
  (.mk (some 4) none (.pure (.mv (.t 11))))]) .ret))))
def fn88 : AFn := (AFn.mk 34 [(.t 4)] (.seq (.ops [
  (.mk (some 4) none (.pure (.mv (.c (.i .i64 0)))))]) (.seq (.seq (.ops [
  (.mk (some 7) none (.pure (.mv (.t 1)))), 
  (.mk (some 8) none (.pure (.len true (.t 7)))), 
  (.mk (some 9) none (.pure (.bin .eql (.t 8) (.c (.i .i64 0)))))]) (.cond (.t 9) (.seq (.ops [
  (.mk (some 10) none (.pure (.mv (.t 0)))), 
  (.mk (some 11) none (.call 99 [(.t 10)])), 
  (.mk (some 12) none (.pure (.bin .add (.t 11) (.c (.i .i64 1))))), 
  (.mk (some 4) none (.pure (.mv (.t 12))))]) .ret) .skip)) (.seq (.seq (.ops [
  (.mk (some 13) none (.pure (.mv (.t 1)))), 
  (.mk (some 14) none (.pure (.len true (.t 13)))), 
  (.mk (some 15) none (.pure (.bin .eql (.t 14) (.c (.i .i64 1)))))]) (.cond (.t 15) (.seq (.ops [
  (.mk (some 16) none (.pure (.mv (.t 0)))), 
  (.mk (some 17) none (.pure (.mv (.t 1)))), 
  (.mk (some 18) none (.pure (.ixStr (.t 17) (.c (.i .i64 0))))), 
  (.mk (some 19) none (.cnt (.t 16) (.t 18))), 
  (.mk (some 4) none (.pure (.mv (.t 19))))]) .ret) .skip)) (.seq (.ops [
  (.mk (some 5) none (.pure (.mv (.c (.i .i64 0)))))]) (.block 0 (.loop (.block 1 (.seq (.ops [
  (.mk (some 20) none (.pure (.mv (.t 0)))), 
  (.mk (some 21) none (.pure (.mv (.t 1)))), 
  (.mk (some 22) none (.call 101 [(.t 20), (.t 21)])), 
  (.mk (some 6) none (.pure (.mv (.t 22))))]) (.seq (.seq (.ops [
  (.mk (some 23) none (.pure (.mv (.t 6)))), 
  (.mk (some 24) none (.pure (.bin .eql (.t 23) (.c (.i .i64 (-1))))))]) (.cond (.t 24) (.seq (.ops [
  (.mk (some 25) none (.pure (.mv (.t 5)))), 
  (.mk (some 4) none (.pure (.mv (.t 25))))]) .ret) .skip)) (.seq (.ops [
  (.mk (some 26) none (.pure (.mv (.t 5)))), 
  (.mk (some 27) none (.pure (.bin .add (.t 26) (.c (.i .i64 1))))), 
  (.mk (some 5) none (.pure (.mv (.t 27))))]) (.ops [
  (.mk (some 28) none (.pure (.mv (.t 0)))), 
  (.mk (some 29) none (.pure (.mv (.t 6)))), 
  (.mk (some 30) none (.pure (.mv (.t 1)))), 
  (.mk (some 31) none (.pure (.len true (.t 30)))), 
  (.mk (some 32) none (.pure (.bin .add (.t 29) (.t 31)))), 
  (.mk (some 33) none (.pure (.slStr (.t 28) (some (.t 32)) none))), 
  (.mk (some 0) none (.pure (.mv (.t 33))))]))))))))))))
def fn89 : AFn := (AFn.mk 8 [(.t 2)] (.seq (.ops [
  (.mk (some 2) none (.pure (.mv (.c (.s [])))))]) (.seq (.ops [
  (.mk (some 3) none (.pure (.mv (.t 0)))), 
  (.mk (some 4) none (.pure (.conv .u8 (.t 3)))), 
  (.mk (some 5) none (.pure (.bin .add (.c (.i .u8 97)) (.t 4)))), 
  (.mk (some 6) none (.bsl 5 1 [(.i .u8 0)] 1 [((0, 1), (.t 5))])), 
  (.mk (some 7) none (.bts (.t 6))), 
  (.mk (some 2) none (.pure (.mv (.t 7))))]) .ret)))
def fn90 : AFn := (AFn.mk 16 [] (.seq (.ops [
  (.mk (some 5) none (.bx 118 1 (.t 0)))]) (.seq (.ops [
  (.mk (some 8) none (.ld true 1 (.t 1))), 
  (.mk (some 6) none (.al 61 [(.i .u64 0)])), 
  (.mk none none (.st 1 (.t 6) (.t 8)))]) (.seq (.ops [
  (.mk (some 7) none (.al 119 [.nfn]))]) (.seq (.ops [
  (.mk (some 9) none (.pure (.mkfn 91 [] [(.t 2), (.t 6), (.t 5), (.t 7), (.t 3)]))), 
  (.mk none none (.st 1 (.t 7) (.t 9)))]) (.opsY [
  (.mk (some 10) none (.ld true 1 (.t 7))), 
  (.mk (some 11) none (.ld true 1 (.t 4))), 
  (.mk (some 12) none (.ld true 1 (.t 2))), 
  (.mk (some 13) none (.pure (.len false (.t 12)))), 
  (.mk (some 14) none (.pure (.bin .sub (.t 13) (.c (.i .i64 1))))), 
  (.mk (some 15) none (.callv (.t 10) [(.t 11), (.t 14)]))]))))))
def fn91 : AFn := (AFn.mk 53 [(.t 9)] (.seq (.ops [
  (.mk (some 9) none (.pure (.mv (.c (.b false)))))]) (.seq (.seq (.ops [
  (.mk (some 13) none (.pure (.mv (.t 0)))), 
  (.mk (some 14) none (.pure (.len true (.t 13)))), 
  (.mk (some 15) none (.pure (.mv (.c (.i .i64 0)))))]) (.block 0 (.loop (.seq (.ops [
  (.mk (some 16) none (.pure (.bin .lss (.t 15) (.t 14))))]) (.seq (.cond (.t 16) .skip (.exit 0)) (.seq (.block 1 (.seq (.ops [
  (.mk (some 17) none (.pure (.mv (.t 15)))), 
  (.mk (some 10) none (.pure (.mv (.t 17))))]) (.seq (.ops [
  (.mk (some 18) none (.pure (.mv (.t 0)))), 
  (.mk (some 19) none (.pure (.mv (.t 10)))), 
  (.mk (some 20) none (.pure (.ixStr (.t 18) (.t 19)))), 
  (.mk (some 21) none (.call 54 [(.t 20)])), 
  (.mk (some 11) none (.pure (.mv (.t 21))))]) (.seq (.ops [
  (.mk (some 22) none (.ld true 1 (.t 2))), 
  (.mk (some 23) none (.pure (.mv (.t 1)))), 
  (.mk (some 24) none (.pure (.ixS 1 (.t 22) (.t 23)))), 
  (.mk (some 25) none (.ld true 1 (.t 24))), 
  (.mk (some 26) none (.pure (.mv (.t 11)))), 
  (.mk (some 27) none (.pure (.ixS 1 (.t 25) (.t 26)))), 
  (.mk (some 28) none (.ld true 1 (.t 27))), 
  (.mk (some 12) none (.pure (.mv (.t 28))))]) (.seq (.ops [
  (.mk (some 29) none (.pure (.mv (.t 12)))), 
  (.mk (some 30) none (.ld true 1 (.t 3))), 
  (.mk (some 31) none (.pure (.bin .leq (.t 29) (.t 30))))]) (.cond (.t 31) (.ops [
  (.mk (some 32) none (.ld true 1 (.t 3))), 
  (.mk (some 33) none (.pure (.mv (.t 12)))), 
  (.mk (some 34) none (.pure (.bin .sub (.t 32) (.t 33)))), 
  (.mk none none (.st 1 (.t 3) (.t 34)))]) (.seq (.ops [
  (.mk (some 35) none (.pure (.mv (.t 1)))), 
  (.mk (some 36) none (.pure (.bin .eql (.t 35) (.c (.i .i64 0)))))]) (.cond (.t 36) (.seq (.opsY [
  (.mk (some 38) none (.pure (.mv (.t 0)))), 
  (.mk (some 39) none (.pure (.mv (.t 10)))), 
  (.mk (some 40) none (.pure (.ixStr (.t 38) (.t 39)))), 
  (.mk (some 37) none (.ld true 1 (.t 4))), 
  (.mk (some 41) none (.callv (.t 37) [(.t 40)])), 
  (.mk (some 42) none (.pure (.not (.t 41))))]) (.cond (.t 42) (.seq (.ops [
  (.mk (some 9) none (.pure (.mv (.c (.b false)))))]) .ret) .skip)) (.seq (.flt [(
  (.mk (some 43) none (.ld true 1 (.t 5))), false), (
  (.mk (some 44) none (.ld true 1 (.t 6))), false), (
  (.mk (some 45) none (.pure (.mv (.t 11)))), false), (
  (.mk (some 46) none (.pure (.ixS 1 (.t 44) (.t 45)))), false), (
  (.mk (some 47) none (.ld true 1 (.t 46))), false), (
  (.mk (some 48) none (.pure (.mv (.t 1)))), false), (
  (.mk (some 49) none (.pure (.bin .sub (.t 48) (.c (.i .i64 1))))), false), (
  (.mk (some 50) none (.callv (.t 43) [(.t 47), (.t 49)])), false), (
  (.mk (some 51) none (.pure (.not (.t 50)))), false)]) (.cond (.t 51) (.seq (.ops [
  (.mk (some 9) none (.pure (.mv (.c (.b false)))))]) .ret) .skip)))))))))) (.ops [
  (.mk (some 52) none (.pure (.bin .add (.t 15) (.c (.i .i64 1))))), 
  (.mk (some 15) none (.pure (.mv (.t 52))))]))))))) (.seq (.ops [
  (.mk (some 9) none (.pure (.mv (.c (.b true)))))]) .ret))))
def fn92 : AFn := (AFn.mk 25 [(.t 4)] (.seq (.ops [
  (.mk (some 4) none (.pure (.mv (.c (.b false)))))]) (.seq (.seq (.ops [
  (.mk (some 7) none (.pure (.mv (.t 1)))), 
  (.mk (some 8) none (.pure (.len true (.t 7)))), 
  (.mk (some 9) none (.pure (.mv (.c (.i .i64 0)))))]) (.block 0 (.loop (.seq (.ops [
  (.mk (some 10) none (.pure (.bin .lss (.t 9) (.t 8))))]) (.seq (.cond (.t 10) .skip (.exit 0)) (.seq (.block 1 (.seq (.ops [
  (.mk (some 11) none (.pure (.mv (.t 9)))), 
  (.mk (some 5) none (.pure (.mv (.t 11))))]) (.seq (.ops [
  (.mk (some 12) none (.pure (.mv (.t 1)))), 
  (.mk (some 13) none (.pure (.mv (.t 5)))), 
  (.mk (some 14) none (.pure (.ixStr (.t 12) (.t 13)))), 
  (.mk (some 15) none (.call 54 [(.t 14)])), 
  (.mk (some 6) none (.pure (.mv (.t 15))))]) (.seq (.ops [
  (.mk (some 16) none (.pure (.mv (.t 6)))), 
  (.mk (some 17) none (.pure (.bin .lss (.t 16) (.c (.i .i64 0))))), 
  (.mk (some 18) none (.pure (.mv (.t 17)))), 
  (.mk (some 19) (some (18, false)) (.pure (.mv (.t 6)))), 
  (.mk (some 20) (some (18, false)) (.pure (.mv (.t 0)))), 
  (.mk (some 21) (some (18, false)) (.pure (.len false (.t 20)))), 
  (.mk (some 22) (some (18, false)) (.pure (.bin .geq (.t 19) (.t 21)))), 
  (.mk (some 23) none (.pure (.pick (.t 18) (.c (.b true)) (.t 22))))]) (.cond (.t 23) (.seq (.ops [
  (.mk (some 4) none (.pure (.mv (.c (.b false)))))]) .ret) .skip))))) (.ops [
  (.mk (some 24) none (.pure (.bin .add (.t 9) (.c (.i .i64 1))))), 
  (.mk (some 9) none (.pure (.mv (.t 24))))]))))))) (.seq (.ops [
  (.mk (some 4) none (.pure (.mv (.c (.b true)))))]) .ret))))
def fn93 : AFn := (AFn.mk 41 [(.t 4)] (.seq (.ops [
  (.mk (some 4) none (.pure (.mv (.c .nsl))))]) (.seq (.ops [
  (.mk (some 9) none (.pure (.mv (.t 0)))), 
  (.mk (some 10) none (.pure (.len false (.t 9)))), 
  (.mk (some 11) none (.mk 124 1 24 [.nsl] (.t 10) (.t 10))), 
  (.mk (some 5) none (.pure (.mv (.t 11))))]) (.seq (.seq (.ops [
  (.mk (some 12) none (.pure (.mv (.t 0)))), 
  (.mk (some 13) none (.pure (.len false (.t 12)))), 
  (.mk (some 14) none (.pure (.mv (.c (.i .i64 0)))))]) (.block 0 (.loop (.seq (.ops [
  (.mk (some 15) none (.pure (.bin .lss (.t 14) (.t 13))))]) (.seq (.cond (.t 15) .skip (.exit 0)) (.seq (.block 1 (.seq (.ops [
  (.mk (some 16) none (.pure (.mv (.t 14)))), 
  (.mk (some 6) none (.pure (.mv (.t 16))))]) (.seq (.ops [
  (.mk (some 17) none (.pure (.mv (.t 0)))), 
  (.mk (some 18) none (.pure (.len false (.t 17)))), 
  (.mk (some 19) none (.pure (.mv (.c (.i .i64 0)))))]) (.block 2 (.loop (.seq (.ops [
  (.mk (some 20) none (.pure (.bin .lss (.t 19) (.t 18))))]) (.seq (.cond (.t 20) .skip (.exit 2)) (.seq (.block 3 (.seq (.ops [
  (.mk (some 21) none (.pure (.ixS 1 (.t 17) (.t 19)))), 
  (.mk (some 22) none (.ld true 1 (.t 21))), 
  (.mk (some 8) none (.pure (.mv (.t 22))))]) (.flt [(
  (.mk (some 23) none (.pure (.mv (.t 5)))), false), (
  (.mk (some 24) none (.pure (.mv (.t 6)))), false), (
  (.mk (some 25) none (.pure (.mv (.t 5)))), false), (
  (.mk (some 26) none (.pure (.mv (.t 6)))), false), (
  (.mk (some 27) none (.pure (.ixS 1 (.t 25) (.t 26)))), false), (
  (.mk (some 28) none (.ld true 1 (.t 27))), true), (
  (.mk (some 29) none (.pure (.mv (.t 1)))), false), (
  (.mk (some 30) none (.pure (.mv (.t 8)))), false), (
  (.mk (some 31) none (.pure (.mv (.t 6)))), false), (
  (.mk (some 32) none (.call 89 [(.t 31)])), false), (
  (.mk (some 33) none (.call 88 [(.t 30), (.t 32)])), false), (
  (.mk (some 34) none (.callv (.t 29) [(.t 33)])), false), (
  (.mk (some 35) none (.bsl 122 1 [(.b false)] 1 [((0, 1), (.t 34))])), false), (
  (.mk (some 36) none (.app 122 1 1 [(.b false)] (.t 28) (.t 35))), true), (
  (.mk (some 37) none (.pure (.ixS 1 (.t 23) (.t 24)))), false), (
  (.mk none none (.st 1 (.t 37) (.t 36))), true)]))) (.ops [
  (.mk (some 38) none (.pure (.bin .add (.t 19) (.c (.i .i64 1))))), 
  (.mk (some 19) none (.pure (.mv (.t 38))))]))))))))) (.ops [
  (.mk (some 39) none (.pure (.bin .add (.t 14) (.c (.i .i64 1))))), 
  (.mk (some 14) none (.pure (.mv (.t 39))))]))))))) (.seq (.ops [
  (.mk (some 40) none (.pure (.mv (.t 5)))), 
  (.mk (some 4) none (.pure (.mv (.t 40))))]) .ret)))))
def fn94 : AFn := (AFn.mk 5 [(.t 2)] (.seq (.ops [
  (.mk (some 2) none (.pure (.mv (.c (.b false)))))]) (.seq (.ops [
  (.mk (some 3) none (.pure (.mv (.t 0)))), 
  (.mk (some 4) none (.pure (.bin .gtr (.t 3) (.c (.i .i64 0))))), 
  (.mk (some 2) none (.pure (.mv (.t 4))))]) .ret)))
def fn95 : AFn := (AFn.mk 73 [(.t 4)] (.seq (.ops [
  (.mk (some 4) none (.pure (.mv (.c .nsl))))]) (.seq (.ops [
  (.mk (some 11) none (.pure (.mv (.t 0)))), 
  (.mk (some 12) none (.pure (.len false (.t 11)))), 
  (.mk (some 13) none (.mk 124 1 24 [.nsl] (.t 12) (.t 12))), 
  (.mk (some 5) none (.pure (.mv (.t 13))))]) (.seq (.seq (.ops [
  (.mk (some 14) none (.pure (.mv (.t 0)))), 
  (.mk (some 15) none (.pure (.len false (.t 14)))), 
  (.mk (some 16) none (.pure (.mv (.c (.i .i64 0)))))]) (.block 0 (.loop (.seq (.ops [
  (.mk (some 17) none (.pure (.bin .lss (.t 16) (.t 15))))]) (.seq (.cond (.t 17) .skip (.exit 0)) (.seq (.block 1 (.seq (.ops [
  (.mk (some 18) none (.pure (.mv (.t 16)))), 
  (.mk (some 19) none (.pure (.ixS 1 (.t 14) (.t 16)))), 
  (.mk (some 20) none (.ld true 1 (.t 19))), 
  (.mk (some 6) none (.pure (.mv (.t 18)))), 
  (.mk (some 7) none (.pure (.mv (.t 20))))]) (.seq (.ops [
  (.mk (some 21) none (.pure (.mv (.t 5)))), 
  (.mk (some 22) none (.pure (.mv (.t 6)))), 
  (.mk (some 23) none (.pure (.mv (.t 1)))), 
  (.mk (some 24) none (.pure (.ixS 1 (.t 23) (.c (.i .i64 0))))), 
  (.mk (some 25) none (.ld true 1 (.t 24))), 
  (.mk (some 26) none (.pure (.len false (.t 25)))), 
  (.mk (some 27) none (.mk 122 1 1 [(.b false)] (.t 26) (.t 26))), 
  (.mk (some 28) none (.pure (.ixS 1 (.t 21) (.t 22)))), 
  (.mk none none (.st 1 (.t 28) (.t 27)))]) (.seq (.ops [
  (.mk (some 29) none (.pure (.mv (.t 5)))), 
  (.mk (some 30) none (.pure (.mv (.t 6)))), 
  (.mk (some 31) none (.pure (.ixS 1 (.t 29) (.t 30)))), 
  (.mk (some 32) none (.ld true 1 (.t 31))), 
  (.mk (some 33) none (.pure (.len false (.t 32)))), 
  (.mk (some 34) none (.pure (.mv (.c (.i .i64 0)))))]) (.block 2 (.loop (.seq (.ops [
  (.mk (some 35) none (.pure (.bin .lss (.t 34) (.t 33))))]) (.seq (.cond (.t 35) .skip (.exit 2)) (.seq (.block 3 (.seq (.ops [
  (.mk (some 36) none (.pure (.mv (.t 34)))), 
  (.mk (some 8) none (.pure (.mv (.t 36))))]) (.seq (.ops [
  (.mk (some 37) none (.pure (.mv (.t 7)))), 
  (.mk (some 38) none (.pure (.len false (.t 37)))), 
  (.mk (some 39) none (.pure (.mv (.c (.i .i64 0)))))]) (.block 4 (.loop (.seq (.ops [
  (.mk (some 40) none (.pure (.bin .lss (.t 39) (.t 38))))]) (.seq (.cond (.t 40) .skip (.exit 4)) (.seq (.block 5 (.seq (.ops [
  (.mk (some 41) none (.pure (.mv (.t 39)))), 
  (.mk (some 42) none (.pure (.ixS 1 (.t 37) (.t 39)))), 
  (.mk (some 43) none (.ld true 1 (.t 42))), 
  (.mk (some 9) none (.pure (.mv (.t 41)))), 
  (.mk (some 10) none (.pure (.mv (.t 43))))]) (.flt [(
  (.mk (some 44) none (.pure (.mv (.t 5)))), false), (
  (.mk (some 45) none (.pure (.mv (.t 6)))), false), (
  (.mk (some 46) none (.pure (.ixS 1 (.t 44) (.t 45)))), false), (
  (.mk (some 47) none (.ld true 1 (.t 46))), true), (
  (.mk (some 48) none (.pure (.mv (.t 8)))), false), (
  (.mk (some 49) none (.pure (.mv (.t 5)))), false), (
  (.mk (some 50) none (.pure (.mv (.t 6)))), false), (
  (.mk (some 51) none (.pure (.ixS 1 (.t 49) (.t 50)))), false), (
  (.mk (some 52) none (.ld true 1 (.t 51))), true), (
  (.mk (some 53) none (.pure (.mv (.t 8)))), false), (
  (.mk (some 54) none (.pure (.ixS 1 (.t 52) (.t 53)))), false), (
  (.mk (some 55) none (.ld true 1 (.t 54))), true), (
  (.mk (some 56) none (.pure (.mki 122 (.t 55)))), false), (
  (.mk (some 57) none (.pure (.mv (.t 10)))), false), (
  (.mk (some 58) none (.pure (.mki 122 (.t 57)))), false), (
  (.mk (some 59) none (.pure (.mv (.t 1)))), false), (
  (.mk (some 60) none (.pure (.mv (.t 9)))), false), (
  (.mk (some 61) none (.pure (.ixS 1 (.t 59) (.t 60)))), false), (
  (.mk (some 62) none (.ld true 1 (.t 61))), false), (
  (.mk (some 63) none (.pure (.mv (.t 8)))), false), (
  (.mk (some 64) none (.pure (.ixS 1 (.t 62) (.t 63)))), false), (
  (.mk (some 65) none (.ld true 1 (.t 64))), false), (
  (.mk (some 66) none (.calli [(61, (126, [])), (106, (129, [])), (122, (131, []))] (.t 58) [(.t 65)])), false), (
  (.mk (some 67) none (.calli [(61, (86, [])), (106, (128, [])), (122, (130, []))] (.t 56) [(.t 66)])), false), (
  (.mk (some 68) none (.pure (.ixS 1 (.t 47) (.t 48)))), false), (
  (.mk none none (.st 1 (.t 68) (.t 67))), true)]))) (.ops [
  (.mk (some 69) none (.pure (.bin .add (.t 39) (.c (.i .i64 1))))), 
  (.mk (some 39) none (.pure (.mv (.t 69))))]))))))))) (.ops [
  (.mk (some 70) none (.pure (.bin .add (.t 34) (.c (.i .i64 1))))), 
  (.mk (some 34) none (.pure (.mv (.t 70))))])))))))))) (.ops [
  (.mk (some 71) none (.pure (.bin .add (.t 16) (.c (.i .i64 1))))), 
  (.mk (some 16) none (.pure (.mv (.t 71))))]))))))) (.seq (.ops [
  (.mk (some 72) none (.pure (.mv (.t 5)))), 
  (.mk (some 4) none (.pure (.mv (.t 72))))]) .ret)))))
def fn96 : AFn := (AFn.mk 36 [(.t 4)] (.seq (.ops [
  (.mk (some 2) none (.bx 85 2 (.t 0))), 
  (.mk (some 4) none (.pure (.mv (.c (.b false)))))]) (.seq (.ops [
  (.mk (some 5) none (.pure (.mv (.c (.i .i64 0)))))]) (.seq (.seq (.ops [
  (.mk (some 7) none (.pure (.faddr 0 (.t 2)))), 
  (.mk (some 8) none (.ld true 1 (.t 7))), 
  (.mk (some 9) none (.pure (.mv (.t 1)))), 
  (.mk (some 10) none (.pure (.ixS 1 (.t 8) (.t 9)))), 
  (.mk (some 11) none (.ld true 1 (.t 10))), 
  (.mk (some 12) none (.pure (.len true (.t 11)))), 
  (.mk (some 13) none (.pure (.mv (.c (.i .i64 0)))))]) (.block 0 (.loop (.seq (.ops [
  (.mk (some 14) none (.pure (.bin .lss (.t 13) (.t 12))))]) (.seq (.cond (.t 14) .skip (.exit 0)) (.seq (.block 1 (.seq (.ops [
  (.mk (some 15) none (.pure (.mv (.t 13)))), 
  (.mk (some 6) none (.pure (.mv (.t 15))))]) (.seq (.flt [(
  (.mk (some 16) none (.pure (.faddr 1 (.t 2)))), false), (
  (.mk (some 17) none (.ld true 1 (.t 16))), true), (
  (.mk (some 18) none (.pure (.mv (.t 1)))), false), (
  (.mk (some 19) none (.pure (.ixS 1 (.t 17) (.t 18)))), false), (
  (.mk (some 20) none (.ld true 1 (.t 19))), true), (
  (.mk (some 21) none (.pure (.faddr 0 (.t 2)))), false), (
  (.mk (some 22) none (.ld true 1 (.t 21))), false), (
  (.mk (some 23) none (.pure (.mv (.t 1)))), false), (
  (.mk (some 24) none (.pure (.ixS 1 (.t 22) (.t 23)))), false), (
  (.mk (some 25) none (.ld true 1 (.t 24))), false), (
  (.mk (some 26) none (.pure (.mv (.t 6)))), false), (
  (.mk (some 27) none (.pure (.ixStr (.t 25) (.t 26)))), false), (
  (.mk (some 28) none (.call 54 [(.t 27)])), false), (
  (.mk (some 29) none (.pure (.ixS 1 (.t 20) (.t 28)))), false), (
  (.mk (some 30) none (.ld true 1 (.t 29))), false)]) (.cond (.t 30) (.ops [
  (.mk (some 31) none (.pure (.mv (.t 5)))), 
  (.mk (some 32) none (.pure (.bin .add (.t 31) (.c (.i .i64 1))))), 
  (.mk (some 5) none (.pure (.mv (.t 32))))]) .skip)))) (.ops [
  (.mk (some 33) none (.pure (.bin .add (.t 13) (.c (.i .i64 1))))), 
  (.mk (some 13) none (.pure (.mv (.t 33))))]))))))) (.seq (.ops [
  (.mk (some 34) none (.pure (.mv (.t 5)))), 
  (.mk (some 35) none (.pure (.bin .geq (.t 34) (.c (.i .i64 2))))), 
  (.mk (some 4) none (.pure (.mv (.t 35))))]) .ret)))))
def fn97 : AFn := (AFn.mk 11 [(.t 4), (.t 5)] (.seq (.ops [
  (.mk (some 4) none (.pure (.mv (.c (.s []))))), 
  (.mk (some 5) none (.pure (.mv (.c (.b false)))))]) (.seq (.ops [
  (.mk (some 6) none (.pure (.mv (.t 0)))), 
  (.mk (some 7) none (.pure (.mv (.t 1)))), 
  (.mk (some 8) none (.call 102 [(.t 6), (.t 7)])), 
  (.mk (some 9) none (.pure (.ext 0 (.t 8)))), 
  (.mk (some 10) none (.pure (.ext 1 (.t 8)))), 
  (.mk (some 4) none (.pure (.mv (.t 9)))), 
  (.mk (some 5) none (.pure (.mv (.t 10))))]) .ret)))
def fn98 : AFn := (AFn.mk 35 [] (.seq (.ops [
  (.mk (some 6) none (.ld true 1 (.t 1))), 
  (.mk (some 7) none (.ld true 1 (.t 2))), 
  (.mk (some 8) none (.pure (.ixS 1 (.t 6) (.t 7)))), 
  (.mk (some 9) none (.ld true 1 (.t 8))), 
  (.mk (some 10) none (.stb 5 (.t 9))), 
  (.mk (some 4) none (.pure (.mv (.t 10))))]) (.seq (.ops [
  (.mk (some 5) none (.pure (.mv (.c (.i .i64 0)))))]) (.block 0 (.loop (.seq (.seq (.ops [
  (.mk (some 11) none (.pure (.mv (.t 5)))), 
  (.mk (some 12) none (.pure (.bin .lss (.t 11) (.c (.i .i64 100000)))))]) (.cond (.t 12) .skip (.exit 0))) (.seq (.block 1 (.seq (.seq (.ops [
  (.mk (some 15) none (.pure (.mv (.t 5)))), 
  (.mk (some 16) none (.pure (.bin .gtr (.t 15) (.c (.i .i64 0)))))]) (.cond (.t 16) (.flt [(
  (.mk (some 17) none (.pure (.mv (.t 4)))), false), (
  (.mk (some 18) none (.ld true 1 (.t 1))), true), (
  (.mk (some 19) none (.pure (.mv (.t 4)))), false), (
  (.mk (some 20) none (.pure (.mv (.t 5)))), false), (
  (.mk (some 21) none (.pure (.ixS 1 (.t 19) (.t 20)))), false), (
  (.mk (some 22) none (.ld true 1 (.t 21))), false), (
  (.mk (some 23) none (.call 54 [(.t 22)])), false), (
  (.mk (some 24) none (.pure (.ixS 1 (.t 18) (.t 23)))), false), (
  (.mk (some 25) none (.ld true 1 (.t 24))), false), (
  (.mk (some 26) none (.app 5 1 1 [(.i .u8 0)] (.t 17) (.t 25))), true), (
  (.mk (some 4) none (.pure (.mv (.t 26)))), false)]) .skip)) (.seq (.opsY [
  (.mk (some 27) none (.pure (.mv (.t 0)))), 
  (.mk (some 28) none (.pure (.mv (.t 5)))), 
  (.mk (some 29) none (.pure (.mv (.t 4)))), 
  (.mk (some 30) none (.pure (.mv (.t 5)))), 
  (.mk (some 31) none (.pure (.ixS 1 (.t 29) (.t 30)))), 
  (.mk (some 32) none (.ld true 1 (.t 31))), 
  (.mk (some 33) none (.callv (.t 27) [(.t 28), (.t 32)])), 
  (.mk (some 34) none (.pure (.not (.t 33))))]) (.cond (.t 34) .ret .skip)))) (.ops [
  (.mk (some 13) none (.pure (.mv (.t 5)))), 
  (.mk (some 14) none (.pure (.bin .add (.t 13) (.c (.i .i64 1))))), 
  (.mk (some 5) none (.pure (.mv (.t 14))))]))))))))
def fn102 : AFn := (AFn.mk 15 [(.t 4), (.t 5)] (.seq (.ops [
  (.mk (some 4) none (.pure (.mv (.c (.s []))))), 
  (.mk (some 5) none (.pure (.mv (.c (.b false)))))]) (.seq (.seq (.ops [
  (.mk (some 6) none (.pure (.mv (.t 0)))), 
  (.mk (some 7) none (.pure (.mv (.t 1)))), 
  (.mk (some 8) none (.call 104 [(.t 6), (.t 7)])), 
  (.mk (some 9) none (.pure (.not (.t 8))))]) (.cond (.t 9) (.seq (.ops [
  (.mk (some 10) none (.pure (.mv (.t 0)))), 
  (.mk (some 4) none (.pure (.mv (.t 10)))), 
  (.mk (some 5) none (.pure (.mv (.c (.b false)))))]) .ret) .skip)) (.seq (.ops [
  (.mk (some 11) none (.pure (.mv (.t 0)))), 
  (.mk (some 12) none (.pure (.mv (.t 1)))), 
  (.mk (some 13) none (.pure (.len true (.t 12)))), 
  (.mk (some 14) none (.pure (.slStr (.t 11) (some (.t 13)) none))), 
  (.mk (some 4) none (.pure (.mv (.t 14)))), 
  (.mk (some 5) none (.pure (.mv (.c (.b true)))))]) .ret))))
def fn104 : AFn := (AFn.mk 18 [(.t 4)] (.seq (.ops [
  (.mk (some 4) none (.pure (.mv (.c (.b false)))))]) (.seq (.ops [
  (.mk (some 5) none (.pure (.mv (.t 0)))), 
  (.mk (some 6) none (.pure (.len true (.t 5)))), 
  (.mk (some 7) none (.pure (.mv (.t 1)))), 
  (.mk (some 8) none (.pure (.len true (.t 7)))), 
  (.mk (some 9) none (.pure (.bin .geq (.t 6) (.t 8)))), 
  (.mk (some 10) none (.pure (.mv (.t 9)))), 
  (.mk (some 11) (some (10, true)) (.pure (.mv (.t 0)))), 
  (.mk (some 12) (some (10, true)) (.pure (.mv (.t 1)))), 
  (.mk (some 13) (some (10, true)) (.pure (.len true (.t 12)))), 
  (.mk (some 14) (some (10, true)) (.pure (.slStr (.t 11) none (some (.t 13))))), 
  (.mk (some 15) (some (10, true)) (.pure (.mv (.t 1)))), 
  (.mk (some 16) (some (10, true)) (.pure (.sbin .eql (.t 14) (.t 15)))), 
  (.mk (some 17) none (.pure (.pick (.t 10) (.t 16) (.c (.b false))))), 
  (.mk (some 4) none (.pure (.mv (.t 17))))]) .ret)))
def fn126 : AFn := (AFn.mk 17 [(.t 4)] (.seq (.ops [
  (.mk (some 4) none (.pure (.mv (.c (.i .u64 0)))))]) (.seq (.ops [
  (.mk (some 8) none (.pure (.mv (.t 0)))), 
  (.mk (some 9) none (.pure (.mv (.t 1)))), 
  (.mk (some 10) none (.call 127 [(.t 8), (.t 9)])), 
  (.mk (some 7) none (.pure (.mv (.t 10)))), 
  (.mk (some 11) none (.pure (.ext 0 (.t 7)))), 
  (.mk (some 12) none (.pure (.ext 1 (.t 7)))), 
  (.mk (some 5) none (.pure (.mv (.t 11)))), 
  (.mk (some 6) none (.pure (.mv (.t 12))))]) (.seq (.seq (.ops [
  (.mk (some 13) none (.pure (.mv (.t 5)))), 
  (.mk (some 14) none (.pure (.bin .gtr (.t 13) (.c (.i .u64 0)))))]) (.cond (.t 14) (.seq (.ops [
  (.mk (some 4) none (.pure (.mv (.c (.i .u64 9223372036854775808)))))]) .ret) .skip)) (.seq (.ops [
  (.mk (some 15) none (.pure (.mv (.t 6)))), 
  (.mk (some 16) none (.pure (.mx false (.t 15) (.c (.i .u64 9223372036854775808))))), 
  (.mk (some 4) none (.pure (.mv (.t 16))))]) .ret)))))
def fn127 : AFn := (AFn.mk 51 [(.t 4), (.t 5)] (.seq (.ops [
  (.mk (some 4) none (.pure (.mv (.c (.i .u64 0))))), 
  (.mk (some 5) none (.pure (.mv (.c (.i .u64 0)))))]) (.seq (.ops [
  (.mk (some 14) none (.pure (.mv (.t 0)))), 
  (.mk (some 15) none (.pure (.bin .and (.t 14) (.c (.i .u64 4294967295))))), 
  (.mk (some 6) none (.pure (.mv (.t 15))))]) (.seq (.ops [
  (.mk (some 16) none (.pure (.mv (.t 0)))), 
  (.mk (some 17) none (.pure (.bin .shr (.t 16) (.c (.i .u64 32))))), 
  (.mk (some 7) none (.pure (.mv (.t 17))))]) (.seq (.ops [
  (.mk (some 18) none (.pure (.mv (.t 1)))), 
  (.mk (some 19) none (.pure (.bin .and (.t 18) (.c (.i .u64 4294967295))))), 
  (.mk (some 8) none (.pure (.mv (.t 19))))]) (.seq (.ops [
  (.mk (some 20) none (.pure (.mv (.t 1)))), 
  (.mk (some 21) none (.pure (.bin .shr (.t 20) (.c (.i .u64 32))))), 
  (.mk (some 9) none (.pure (.mv (.t 21))))]) (.seq (.ops [
  (.mk (some 22) none (.pure (.mv (.t 6)))), 
  (.mk (some 23) none (.pure (.mv (.t 8)))), 
  (.mk (some 24) none (.pure (.bin .mul (.t 22) (.t 23)))), 
  (.mk (some 10) none (.pure (.mv (.t 24))))]) (.seq (.ops [
  (.mk (some 25) none (.pure (.mv (.t 7)))), 
  (.mk (some 26) none (.pure (.mv (.t 8)))), 
  (.mk (some 27) none (.pure (.bin .mul (.t 25) (.t 26)))), 
  (.mk (some 28) none (.pure (.mv (.t 10)))), 
  (.mk (some 29) none (.pure (.bin .shr (.t 28) (.c (.i .u64 32))))), 
  (.mk (some 30) none (.pure (.bin .add (.t 27) (.t 29)))), 
  (.mk (some 11) none (.pure (.mv (.t 30))))]) (.seq (.ops [
  (.mk (some 31) none (.pure (.mv (.t 11)))), 
  (.mk (some 32) none (.pure (.bin .and (.t 31) (.c (.i .u64 4294967295))))), 
  (.mk (some 12) none (.pure (.mv (.t 32))))]) (.seq (.ops [
  (.mk (some 33) none (.pure (.mv (.t 11)))), 
  (.mk (some 34) none (.pure (.bin .shr (.t 33) (.c (.i .u64 32))))), 
  (.mk (some 13) none (.pure (.mv (.t 34))))]) (.seq (.ops [
  (.mk (some 35) none (.pure (.mv (.t 12)))), 
  (.mk (some 36) none (.pure (.mv (.t 6)))), 
  (.mk (some 37) none (.pure (.mv (.t 9)))), 
  (.mk (some 38) none (.pure (.bin .mul (.t 36) (.t 37)))), 
  (.mk (some 39) none (.pure (.bin .add (.t 35) (.t 38)))), 
  (.mk (some 12) none (.pure (.mv (.t 39))))]) (.seq (.ops [
  (.mk (some 40) none (.pure (.mv (.t 7)))), 
  (.mk (some 41) none (.pure (.mv (.t 9)))), 
  (.mk (some 42) none (.pure (.bin .mul (.t 40) (.t 41)))), 
  (.mk (some 43) none (.pure (.mv (.t 13)))), 
  (.mk (some 44) none (.pure (.bin .add (.t 42) (.t 43)))), 
  (.mk (some 45) none (.pure (.mv (.t 12)))), 
  (.mk (some 46) none (.pure (.bin .shr (.t 45) (.c (.i .u64 32))))), 
  (.mk (some 47) none (.pure (.bin .add (.t 44) (.t 46)))), 
  (.mk (some 4) none (.pure (.mv (.t 47))))]) (.seq (.ops [
  (.mk (some 48) none (.pure (.mv (.t 0)))), 
  (.mk (some 49) none (.pure (.mv (.t 1)))), 
  (.mk (some 50) none (.pure (.bin .mul (.t 48) (.t 49)))), 
  (.mk (some 5) none (.pure (.mv (.t 50))))]) .ret)))))))))))))
def fn128 : AFn := (AFn.mk 8 [(.t 4)] (.seq (.ops [
  (.mk (some 4) none (.pure (.mv (.c (.i .i64 0)))))]) (.seq (.ops [
  (.mk (some 5) none (.pure (.mv (.t 0)))), 
  (.mk (some 6) none (.pure (.mv (.t 1)))), 
  (.mk (some 7) none (.pure (.bin .add (.t 5) (.t 6)))), 
  (.mk (some 4) none (.pure (.mv (.t 7))))]) .ret)))
def fn129 : AFn := (AFn.mk 8 [(.t 4)] (.seq (.ops [
  (.mk (some 4) none (.pure (.mv (.c (.i .i64 0)))))]) (.seq (.ops [
  (.mk (some 5) none (.pure (.mv (.t 0)))), 
  (.mk (some 6) none (.pure (.mv (.t 1)))), 
  (.mk (some 7) none (.pure (.bin .mul (.t 5) (.t 6)))), 
  (.mk (some 4) none (.pure (.mv (.t 7))))]) .ret)))
def fn130 : AFn := (AFn.mk 9 [(.t 4)] (.seq (.ops [
  (.mk (some 4) none (.pure (.mv (.c (.b false)))))]) (.seq (.ops [
  (.mk (some 5) none (.pure (.mv (.t 0)))), 
  (.mk (some 6) none (.pure (.mv (.t 5)))), 
  (.mk (some 7) (some (6, false)) (.pure (.mv (.t 1)))), 
  (.mk (some 8) none (.pure (.pick (.t 6) (.c (.b true)) (.t 7)))), 
  (.mk (some 4) none (.pure (.mv (.t 8))))]) .ret)))
def fn131 : AFn := (AFn.mk 9 [(.t 4)] (.seq (.ops [
  (.mk (some 4) none (.pure (.mv (.c (.b false)))))]) (.seq (.ops [
  (.mk (some 5) none (.pure (.mv (.t 0)))), 
  (.mk (some 6) none (.pure (.mv (.t 5)))), 
  (.mk (some 7) (some (6, true)) (.pure (.mv (.t 1)))), 
  (.mk (some 8) none (.pure (.pick (.t 6) (.t 7) (.c (.b false))))), 
  (.mk (some 4) none (.pure (.mv (.t 8))))]) .ret)))
def F (f : Nat) : Option AFn := cond (Nat.blt f 65) (cond (Nat.blt f 48) (cond (Nat.blt f 22) (cond (Nat.blt f 18) (cond (Nat.blt f 16) (cond (Nat.blt f 15) (cond (Nat.beq f 3) (some fn3) none) (cond (Nat.beq f 15) (some fn15) none)) (cond (Nat.blt f 17) (cond (Nat.beq f 16) (some fn16) none) (cond (Nat.beq f 17) (some fn17) none))) (cond (Nat.blt f 20) (cond (Nat.blt f 19) (cond (Nat.beq f 18) (some fn18) none) (cond (Nat.beq f 19) (some fn19) none)) (cond (Nat.blt f 21) (cond (Nat.beq f 20) (some fn20) none) (cond (Nat.beq f 21) (some fn21) none)))) (cond (Nat.blt f 40) (cond (Nat.blt f 28) (cond (Nat.blt f 23) (cond (Nat.beq f 22) (some fn22) none) (cond (Nat.beq f 23) (some fn23) none)) (cond (Nat.blt f 38) (cond (Nat.beq f 28) (some fn28) none) (cond (Nat.beq f 38) (some fn38) none))) (cond (Nat.blt f 46) (cond (Nat.blt f 42) (cond (Nat.beq f 40) (some fn40) none) (cond (Nat.beq f 42) (some fn42) none)) (cond (Nat.blt f 47) (cond (Nat.beq f 46) (some fn46) none) (cond (Nat.beq f 47) (some fn47) none))))) (cond (Nat.blt f 56) (cond (Nat.blt f 52) (cond (Nat.blt f 50) (cond (Nat.blt f 49) (cond (Nat.beq f 48) (some fn48) none) (cond (Nat.beq f 49) (some fn49) none)) (cond (Nat.blt f 51) (cond (Nat.beq f 50) (some fn50) none) (cond (Nat.beq f 51) (some fn51) none))) (cond (Nat.blt f 54) (cond (Nat.blt f 53) (cond (Nat.beq f 52) (some fn52) none) (cond (Nat.beq f 53) (some fn53) none)) (cond (Nat.blt f 55) (cond (Nat.beq f 54) (some fn54) none) (cond (Nat.beq f 55) (some fn55) none)))) (cond (Nat.blt f 60) (cond (Nat.blt f 58) (cond (Nat.blt f 57) (cond (Nat.beq f 56) (some fn56) none) (cond (Nat.beq f 57) (some fn57) none)) (cond (Nat.blt f 59) (cond (Nat.beq f 58) (some fn58) none) (cond (Nat.beq f 59) (some fn59) none))) (cond (Nat.blt f 63) (cond (Nat.blt f 61) (cond (Nat.beq f 60) (some fn60) none) (cond (Nat.beq f 61) (some fn61) none)) (cond (Nat.blt f 64) (cond (Nat.beq f 63) (some fn63) none) (cond (Nat.beq f 64) (some fn64) none)))))) (cond (Nat.blt f 91) (cond (Nat.blt f 82) (cond (Nat.blt f 75) (cond (Nat.blt f 72) (cond (Nat.blt f 71) (cond (Nat.beq f 65) (some fn65) none) (cond (Nat.beq f 71) (some fn71) none)) (cond (Nat.blt f 74) (cond (Nat.beq f 72) (some fn72) none) (cond (Nat.beq f 74) (some fn74) none))) (cond (Nat.blt f 80) (cond (Nat.blt f 79) (cond (Nat.beq f 75) (some fn75) none) (cond (Nat.beq f 79) (some fn79) none)) (cond (Nat.blt f 81) (cond (Nat.beq f 80) (some fn80) none) (cond (Nat.beq f 81) (some fn81) none)))) (cond (Nat.blt f 87) (cond (Nat.blt f 85) (cond (Nat.blt f 83) (cond (Nat.beq f 82) (some fn82) none) (cond (Nat.beq f 83) (some fn83) none)) (cond (Nat.blt f 86) (cond (Nat.beq f 85) (some fn85) none) (cond (Nat.beq f 86) (some fn86) none))) (cond (Nat.blt f 89) (cond (Nat.blt f 88) (cond (Nat.beq f 87) (some fn87) none) (cond (Nat.beq f 88) (some fn88) none)) (cond (Nat.blt f 90) (cond (Nat.beq f 89) (some fn89) none) (cond (Nat.beq f 90) (some fn90) none))))) (cond (Nat.blt f 102) (cond (Nat.blt f 95) (cond (Nat.blt f 93) (cond (Nat.blt f 92) (cond (Nat.beq f 91) (some fn91) none) (cond (Nat.beq f 92) (some fn92) none)) (cond (Nat.blt f 94) (cond (Nat.beq f 93) (some fn93) none) (cond (Nat.beq f 94) (some fn94) none))) (cond (Nat.blt f 97) (cond (Nat.blt f 96) (cond (Nat.beq f 95) (some fn95) none) (cond (Nat.beq f 96) (some fn96) none)) (cond (Nat.blt f 98) (cond (Nat.beq f 97) (some fn97) none) (cond (Nat.beq f 98) (some fn98) none)))) (cond (Nat.blt f 128) (cond (Nat.blt f 126) (cond (Nat.blt f 104) (cond (Nat.beq f 102) (some fn102) none) (cond (Nat.beq f 104) (some fn104) none)) (cond (Nat.blt f 127) (cond (Nat.beq f 126) (some fn126) none) (cond (Nat.beq f 127) (some fn127) none))) (cond (Nat.blt f 130) (cond (Nat.blt f 129) (cond (Nat.beq f 128) (some fn128) none) (cond (Nat.beq f 129) (some fn129) none)) (cond (Nat.blt f 131) (cond (Nat.beq f 130) (some fn130) none) (cond (Nat.beq f 131) (some fn131) none))))))
end Go.Proofs.Ytfohppnelbbepaa.T
