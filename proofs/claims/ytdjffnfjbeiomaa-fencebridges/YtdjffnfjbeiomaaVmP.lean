/- The functions that the law reaches, as the small machine takes them. -/
import Derived.Test.YtdjffnfjbeiomaaVmA
import Derived.KernelRfl
open Go.Vm
namespace Go.Proofs.Ytdjffnfjbeiomaa.T
open Go
def fn3 : AFn := (AFn.mk 59 [(.t 4)] (.seq (.ops [
  (.mk (some 4) none (.pure (.mv (.c (.b false)))))]) (.seq (.seq (.ops [
  (.mk (some 11) none (.pure (.mv (.t 1)))), 
  (.mk (some 12) none (.call 4 [(.t 11)])), 
  (.mk (some 13) none (.pure (.not (.t 12))))]) (.cond (.t 13) (.seq (.ops [
  (.mk (some 14) none (.call 5 [])), 
  (.mk (some 4) none (.pure (.mv (.t 14))))]) .ret) .skip)) (.seq (.ops [
  (.mk (some 16) none (.pure (.mv (.t 0)))), 
  (.mk (some 17) none (.pure (.mv (.t 1)))), 
  (.mk (some 18) none (.call 6 [(.t 16), (.t 17)])), 
  (.mk (some 15) none (.pure (.mv (.t 18)))), 
  (.mk (some 19) none (.pure (.ext 0 (.t 15)))), 
  (.mk (some 20) none (.pure (.ext 1 (.t 15)))), 
  (.mk (some 5) none (.pure (.mv (.t 19)))), 
  (.mk (some 6) none (.pure (.mv (.t 20))))]) (.seq (.ops [
  (.mk (some 22) none (.pure (.mv (.t 0)))), 
  (.mk (some 23) none (.pure (.mv (.t 1)))), 
  (.mk (some 24) none (.call 7 [(.t 22), (.t 23)])), 
  (.mk (some 21) none (.pure (.mv (.t 24)))), 
  (.mk (some 25) none (.pure (.ext 0 (.t 21)))), 
  (.mk (some 26) none (.pure (.ext 1 (.t 21)))), 
  (.mk (some 7) none (.pure (.mv (.t 25)))), 
  (.mk (some 8) none (.pure (.mv (.t 26))))]) (.seq (.seq (.ops [
  (.mk (some 27) none (.pure (.mv (.t 5)))), 
  (.mk (some 28) none (.pure (.mv (.t 7)))), 
  (.mk (some 29) none (.call 8 [(.t 27), (.t 28)])), 
  (.mk (some 30) none (.pure (.not (.t 29)))), 
  (.mk (some 31) none (.pure (.mv (.t 30)))), 
  (.mk (some 32) (some (31, false)) (.pure (.mv (.t 6)))), 
  (.mk (some 33) (some (31, false)) (.pure (.mv (.t 8)))), 
  (.mk (some 34) (some (31, false)) (.pure (.bin .neq (.t 32) (.t 33)))), 
  (.mk (some 35) none (.pure (.pick (.t 31) (.c (.b true)) (.t 34))))]) (.cond (.t 35) (.seq (.ops [
  (.mk (some 4) none (.pure (.mv (.c (.b false)))))]) .ret) .skip)) (.seq (.ops [
  (.mk (some 37) none (.pure (.mv (.t 0)))), 
  (.mk (some 38) none (.pure (.mv (.t 1)))), 
  (.mk (some 39) none (.call 9 [(.t 37), (.t 38)])), 
  (.mk (some 36) none (.pure (.mv (.t 39)))), 
  (.mk (some 40) none (.pure (.ext 0 (.t 36)))), 
  (.mk (some 41) none (.pure (.ext 1 (.t 36)))), 
  (.mk (some 9) none (.pure (.mv (.t 40)))), 
  (.mk (some 6) none (.pure (.mv (.t 41))))]) (.seq (.ops [
  (.mk (some 43) none (.pure (.mv (.t 0)))), 
  (.mk (some 44) none (.pure (.mv (.t 1)))), 
  (.mk (some 45) none (.call 10 [(.t 43), (.t 44)])), 
  (.mk (some 42) none (.pure (.mv (.t 45)))), 
  (.mk (some 46) none (.pure (.ext 0 (.t 42)))), 
  (.mk (some 47) none (.pure (.ext 1 (.t 42)))), 
  (.mk (some 10) none (.pure (.mv (.t 46)))), 
  (.mk (some 8) none (.pure (.mv (.t 47))))]) (.seq (.ops [
  (.mk (some 48) none (.pure (.mv (.t 9)))), 
  (.mk (some 49) none (.pure (.mv (.t 10)))), 
  (.mk (some 50) none (.pure (.bin .eql (.t 48) (.t 49)))), 
  (.mk (some 51) none (.pure (.mv (.t 50)))), 
  (.mk (some 52) (some (51, true)) (.pure (.mv (.t 6)))), 
  (.mk (some 53) (some (51, true)) (.pure (.mv (.t 8)))), 
  (.mk (some 54) (some (51, true)) (.pure (.bin .eql (.t 52) (.t 53)))), 
  (.mk (some 55) none (.pure (.pick (.t 51) (.t 54) (.c (.b false))))), 
  (.mk (some 56) none (.pure (.mv (.t 55)))), 
  (.mk (some 57) (some (56, true)) (.call 5 [])), 
  (.mk (some 58) none (.pure (.pick (.t 56) (.t 57) (.c (.b false))))), 
  (.mk (some 4) none (.pure (.mv (.t 58))))]) .ret)))))))))
def fn4 : AFn := (AFn.mk 6 [(.t 2)] (.seq (.ops [
  (.mk (some 2) none (.pure (.mv (.c (.b false)))))]) (.seq (.ops [
  (.mk (some 3) none (.pure (.mv (.t 0)))), 
  (.mk (some 4) none (.pure (.len false (.t 3)))), 
  (.mk (some 5) none (.pure (.bin .leq (.t 4) (.c (.i .i64 40))))), 
  (.mk (some 2) none (.pure (.mv (.t 5))))]) .ret)))
def fn5 : AFn := (AFn.mk 72 [(.t 0)] (.seq (.ops [
  (.mk (some 0) none (.pure (.mv (.c (.b false)))))]) (.seq (.ops [
  (.mk (some 11) none (.call 12 [])), 
  (.mk (some 12) none (.call 11 [(.c (.i .i64 3)), (.t 11)])), 
  (.mk (some 10) none (.pure (.mv (.t 12)))), 
  (.mk (some 13) none (.pure (.ext 0 (.t 10)))), 
  (.mk (some 14) none (.pure (.ext 1 (.t 10)))), 
  (.mk (some 1) none (.pure (.mv (.t 13)))), 
  (.mk (some 2) none (.pure (.mv (.t 14))))]) (.seq (.ops [
  (.mk (some 16) none (.call 12 [])), 
  (.mk (some 17) none (.call 13 [(.c (.i .i64 3)), (.t 16), (.c (.i .i64 3))])), 
  (.mk (some 15) none (.pure (.mv (.t 17)))), 
  (.mk (some 18) none (.pure (.ext 0 (.t 15)))), 
  (.mk (some 19) none (.pure (.ext 1 (.t 15)))), 
  (.mk (some 3) none (.pure (.mv (.t 18)))), 
  (.mk (some 4) none (.pure (.mv (.t 19))))]) (.seq (.ops [
  (.mk (some 21) none (.call 12 [])), 
  (.mk (some 22) none (.call 14 [(.c (.i .i64 3)), (.t 21)])), 
  (.mk (some 20) none (.pure (.mv (.t 22)))), 
  (.mk (some 23) none (.pure (.ext 0 (.t 20)))), 
  (.mk (some 24) none (.pure (.ext 1 (.t 20)))), 
  (.mk (some 25) none (.pure (.ext 2 (.t 20)))), 
  (.mk (some 5) none (.pure (.mv (.t 23)))), 
  (.mk (some 6) none (.pure (.mv (.t 24)))), 
  (.mk (some 7) none (.pure (.mv (.t 25))))]) (.seq (.ops [
  (.mk (some 27) none (.pure (.build [(.i .i64 0), (.i .i64 0)] [((0, 1), (.c (.i .i64 0))), ((1, 1), (.c (.i .i64 1)))]))), 
  (.mk (some 28) none (.pure (.build [(.i .i64 0), (.i .i64 0)] [((0, 1), (.c (.i .i64 0))), ((1, 1), (.c (.i .i64 1)))]))), 
  (.mk (some 29) none (.bsl 45 2 [(.i .i64 0), (.i .i64 0)] 2 [((0, 2), (.t 27)), ((2, 2), (.t 28))])), 
  (.mk (some 30) none (.pure (.build [(.i .i64 0), (.i .i64 0)] [((0, 1), (.c (.i .i64 1))), ((1, 1), (.c (.i .i64 2)))]))), 
  (.mk (some 31) none (.call 15 [(.c (.i .i64 2)), (.t 29), (.t 30)])), 
  (.mk (some 26) none (.pure (.mv (.t 31)))), 
  (.mk (some 32) none (.pure (.ext 0 (.t 26)))), 
  (.mk (some 33) none (.pure (.ext 1 (.t 26)))), 
  (.mk (some 8) none (.al 41 [(.i .i64 0), (.i .i64 0)])), 
  (.mk none none (.st 2 (.t 8) (.t 32))), 
  (.mk (some 9) none (.pure (.mv (.t 33))))]) (.seq (.ops [
  (.mk (some 34) none (.pure (.mv (.t 2)))), 
  (.mk (some 35) none (.pure (.bin .eql (.t 34) (.c (.i .i64 0))))), 
  (.mk (some 36) none (.pure (.mv (.t 35)))), 
  (.mk (some 37) (some (36, true)) (.pure (.mv (.t 1)))), 
  (.mk (some 38) (some (36, true)) (.bsl 3 1 [(.i .i64 0)] 3 [((0, 1), (.c (.i .i64 0))), ((1, 1), (.c (.i .i64 1))), ((2, 1), (.c (.i .i64 1)))])), 
  (.mk (some 39) (some (36, true)) (.bsl 3 1 [(.i .i64 0)] 1 [((0, 1), (.c (.i .i64 1)))])), 
  (.mk (some 40) (some (36, true)) (.bsl 25 1 [.nsl] 2 [((0, 1), (.t 38)), ((1, 1), (.t 39))])), 
  (.mk (some 41) (some (36, true)) (.call 16 [(.t 37), (.t 40)])), 
  (.mk (some 42) none (.pure (.pick (.t 36) (.t 41) (.c (.b false))))), 
  (.mk (some 43) none (.pure (.mv (.t 42)))), 
  (.mk (some 44) (some (43, true)) (.pure (.mv (.t 4)))), 
  (.mk (some 45) (some (43, true)) (.pure (.bin .eql (.t 44) (.c (.i .i64 0))))), 
  (.mk (some 46) none (.pure (.pick (.t 43) (.t 45) (.c (.b false))))), 
  (.mk (some 47) none (.pure (.mv (.t 46)))), 
  (.mk (some 48) (some (47, true)) (.pure (.mv (.t 3)))), 
  (.mk (some 49) (some (47, true)) (.pure (.bin .eql (.t 48) (.c (.i .i64 6))))), 
  (.mk (some 50) none (.pure (.pick (.t 47) (.t 49) (.c (.b false))))), 
  (.mk (some 51) none (.pure (.mv (.t 50)))), 
  (.mk (some 52) (some (51, true)) (.pure (.mv (.t 7)))), 
  (.mk (some 53) (some (51, true)) (.pure (.bin .eql (.t 52) (.c (.i .i64 0))))), 
  (.mk (some 54) none (.pure (.pick (.t 51) (.t 53) (.c (.b false))))), 
  (.mk (some 55) none (.pure (.mv (.t 54)))), 
  (.mk (some 56) (some (55, true)) (.pure (.mv (.t 5)))), 
  (.mk (some 57) (some (55, true)) (.pure (.bin .eql (.t 56) (.c (.i .i64 6))))), 
  (.mk (some 58) none (.pure (.pick (.t 55) (.t 57) (.c (.b false))))), 
  (.mk (some 59) none (.pure (.mv (.t 58)))), 
  (.mk (some 60) (some (59, true)) (.pure (.mv (.t 6)))), 
  (.mk (some 61) (some (59, true)) (.pure (.bin .eql (.t 60) (.c (.i .i64 2))))), 
  (.mk (some 62) none (.pure (.pick (.t 59) (.t 61) (.c (.b false))))), 
  (.mk (some 63) none (.pure (.mv (.t 62)))), 
  (.mk (some 64) (some (63, true)) (.pure (.mv (.t 9)))), 
  (.mk (some 65) (some (63, true)) (.pure (.bin .eql (.t 64) (.c (.i .i64 0))))), 
  (.mk (some 66) none (.pure (.pick (.t 63) (.t 65) (.c (.b false))))), 
  (.mk (some 67) none (.pure (.mv (.t 66)))), 
  (.mk (some 68) (some (67, true)) (.ld false 2 (.t 8))), 
  (.mk (some 69) (some (67, true)) (.pure (.build [(.i .i64 0), (.i .i64 0)] [((0, 1), (.c (.i .i64 3))), ((1, 1), (.c (.i .i64 4)))]))), 
  (.mk (some 70) (some (67, true)) (.pure (.seq false [(0, false), (1, false)] (.t 68) (.t 69)))), 
  (.mk (some 71) none (.pure (.pick (.t 67) (.t 70) (.c (.b false))))), 
  (.mk (some 0) none (.pure (.mv (.t 71))))]) .ret)))))))
def fn6 : AFn := (AFn.mk 33 [(.t 4), (.t 5)] (.seq (.ops [
  (.mk (some 4) none (.pure (.mv (.c .nsl)))), 
  (.mk (some 5) none (.pure (.mv (.c (.i .i64 0)))))]) (.seq (.ops [
  (.mk (some 11) none (.pure (.mv (.t 0)))), 
  (.mk (some 12) none (.pure (.mv (.t 1)))), 
  (.mk (some 13) none (.call 17 [(.t 11), (.t 12)])), 
  (.mk (some 10) none (.pure (.mv (.t 13)))), 
  (.mk (some 14) none (.pure (.ext 0 (.t 10)))), 
  (.mk (some 15) none (.pure (.ext 1 (.t 10)))), 
  (.mk (some 6) none (.al 49 [(.i .i64 0), (.i .i64 0), (.i .i64 0), (.i .i64 0), (.i .i64 0), (.i .i64 0), (.i .i64 0), (.i .i64 0), (.i .i64 0), (.i .i64 0), (.i .i64 0), (.i .i64 0), (.i .i64 0), (.i .i64 0), (.i .i64 0), (.i .i64 0), (.i .i64 0), (.i .i64 0), (.i .i64 0), (.i .i64 0), (.i .i64 0), (.i .i64 0), (.i .i64 0), (.i .i64 0), (.i .i64 0), (.i .i64 0), (.i .i64 0), (.i .i64 0), (.i .i64 0)])), 
  (.mk none none (.st 29 (.t 6) (.t 14))), 
  (.mk (some 7) none (.pure (.mv (.t 15))))]) (.seq (.seq (.ops [
  (.mk (some 16) none (.pure (.mv (.t 7)))), 
  (.mk (some 17) none (.pure (.bin .neq (.t 16) (.c (.i .i64 0)))))]) (.cond (.t 17) (.seq (.ops [
  (.mk (some 18) none (.pure (.mv (.t 7)))), 
  (.mk (some 4) none (.pure (.mv (.c .nsl)))), 
  (.mk (some 5) none (.pure (.mv (.t 18))))]) .ret) .skip)) (.seq (.ops [
  (.mk (some 8) none (.pure (.mv (.c .nsl))))]) (.seq (.seq (.ops [
  (.mk (some 19) none (.pure (.faddr 0 (.t 6)))), 
  (.mk (some 20) none (.ld true 1 (.t 19))), 
  (.mk (some 21) none (.pure (.mv (.c (.i .i64 0)))))]) (.block 0 (.loop (.seq (.ops [
  (.mk (some 22) none (.pure (.bin .lss (.t 21) (.t 20))))]) (.seq (.cond (.t 22) .skip (.exit 0)) (.seq (.block 1 (.seq (.ops [
  (.mk (some 23) none (.pure (.mv (.t 21)))), 
  (.mk (some 9) none (.pure (.mv (.t 23))))]) (.seq (.ops [
  (.mk (some 24) none (.ld false 29 (.t 6))), 
  (.mk (some 25) none (.pure (.mv (.t 9)))), 
  (.mk (some 26) none (.call 18 [(.t 24), (.t 25)]))]) (.cond (.t 26) (.ops [
  (.mk (some 27) none (.pure (.mv (.t 8)))), 
  (.mk (some 28) none (.pure (.mv (.t 9)))), 
  (.mk (some 29) none (.bsl 3 1 [(.i .i64 0)] 1 [((0, 1), (.t 28))])), 
  (.mk (some 30) none (.app 3 1 8 [(.i .i64 0)] (.t 27) (.t 29))), 
  (.mk (some 8) none (.pure (.mv (.t 30))))]) .skip)))) (.ops [
  (.mk (some 31) none (.pure (.bin .add (.t 21) (.c (.i .i64 1))))), 
  (.mk (some 21) none (.pure (.mv (.t 31))))]))))))) (.seq (.ops [
  (.mk (some 32) none (.pure (.mv (.t 8)))), 
  (.mk (some 4) none (.pure (.mv (.t 32)))), 
  (.mk (some 5) none (.pure (.mv (.c (.i .i64 0)))))]) .ret)))))))
def fn7 : AFn := (AFn.mk 43 [(.t 4), (.t 5)] (.seq (.ops [
  (.mk (some 4) none (.pure (.mv (.c .nsl)))), 
  (.mk (some 5) none (.pure (.mv (.c (.i .i64 0)))))]) (.seq (.ops [
  (.mk (some 10) none (.pure (.mv (.t 0)))), 
  (.mk (some 11) none (.pure (.mv (.t 1)))), 
  (.mk (some 12) none (.call 19 [(.t 10), (.t 11)])), 
  (.mk (some 6) none (.pure (.mv (.t 12))))]) (.seq (.seq (.ops [
  (.mk (some 13) none (.pure (.mv (.t 6)))), 
  (.mk (some 14) none (.pure (.bin .neq (.t 13) (.c (.i .i64 0)))))]) (.cond (.t 14) (.seq (.ops [
  (.mk (some 15) none (.pure (.mv (.t 6)))), 
  (.mk (some 4) none (.pure (.mv (.c .nsl)))), 
  (.mk (some 5) none (.pure (.mv (.t 15))))]) .ret) .skip)) (.seq (.ops [
  (.mk (some 16) none (.pure (.mv (.t 1)))), 
  (.mk (some 17) none (.pure (.len false (.t 16)))), 
  (.mk (some 18) none (.pure (.bin .shl (.c (.i .i64 1)) (.t 17)))), 
  (.mk (some 19) none (.pure (.bin .sub (.t 18) (.c (.i .i64 1))))), 
  (.mk (some 7) none (.pure (.mv (.t 19))))]) (.seq (.ops [
  (.mk (some 8) none (.pure (.mv (.c .nsl))))]) (.seq (.seq (.ops [
  (.mk (some 9) none (.pure (.mv (.c (.i .i64 0)))))]) (.block 0 (.loop (.seq (.seq (.ops [
  (.mk (some 20) none (.pure (.mv (.t 9)))), 
  (.mk (some 21) none (.pure (.mv (.t 1)))), 
  (.mk (some 22) none (.pure (.len false (.t 21)))), 
  (.mk (some 23) none (.pure (.bin .lss (.t 20) (.t 22))))]) (.cond (.t 23) .skip (.exit 0))) (.seq (.block 1 (.seq (.ops [
  (.mk (some 26) none (.pure (.mv (.t 0)))), 
  (.mk (some 27) none (.pure (.mv (.t 1)))), 
  (.mk (some 28) none (.pure (.mv (.t 7)))), 
  (.mk (some 29) none (.pure (.mv (.t 9)))), 
  (.mk (some 30) none (.pure (.bin .shl (.c (.i .i64 1)) (.t 29)))), 
  (.mk (some 31) none (.pure (.bin .sub (.t 28) (.t 30)))), 
  (.mk (some 32) none (.call 20 [(.t 26), (.t 27), (.t 31)])), 
  (.mk (some 33) none (.pure (.mv (.t 0)))), 
  (.mk (some 34) none (.pure (.mv (.t 1)))), 
  (.mk (some 35) none (.pure (.mv (.t 7)))), 
  (.mk (some 36) none (.call 20 [(.t 33), (.t 34), (.t 35)])), 
  (.mk (some 37) none (.pure (.bin .gtr (.t 32) (.t 36))))]) (.cond (.t 37) (.ops [
  (.mk (some 38) none (.pure (.mv (.t 8)))), 
  (.mk (some 39) none (.pure (.mv (.t 9)))), 
  (.mk (some 40) none (.bsl 3 1 [(.i .i64 0)] 1 [((0, 1), (.t 39))])), 
  (.mk (some 41) none (.app 3 1 8 [(.i .i64 0)] (.t 38) (.t 40))), 
  (.mk (some 8) none (.pure (.mv (.t 41))))]) .skip))) (.ops [
  (.mk (some 24) none (.pure (.mv (.t 9)))), 
  (.mk (some 25) none (.pure (.bin .add (.t 24) (.c (.i .i64 1))))), 
  (.mk (some 9) none (.pure (.mv (.t 25))))])))))) (.seq (.ops [
  (.mk (some 42) none (.pure (.mv (.t 8)))), 
  (.mk (some 4) none (.pure (.mv (.t 42)))), 
  (.mk (some 5) none (.pure (.mv (.c (.i .i64 0)))))]) .ret))))))))
def fn8 : AFn := (AFn.mk 26 [(.t 4)] (.seq (.ops [
  (.mk (some 4) none (.pure (.mv (.c (.b false)))))]) (.seq (.seq (.ops [
  (.mk (some 6) none (.pure (.mv (.t 0)))), 
  (.mk (some 7) none (.pure (.len false (.t 6)))), 
  (.mk (some 8) none (.pure (.mv (.t 1)))), 
  (.mk (some 9) none (.pure (.len false (.t 8)))), 
  (.mk (some 10) none (.pure (.bin .neq (.t 7) (.t 9))))]) (.cond (.t 10) (.seq (.ops [
  (.mk (some 4) none (.pure (.mv (.c (.b false)))))]) .ret) .skip)) (.seq (.seq (.ops [
  (.mk (some 5) none (.pure (.mv (.c (.i .i64 0)))))]) (.block 0 (.loop (.seq (.seq (.ops [
  (.mk (some 11) none (.pure (.mv (.t 5)))), 
  (.mk (some 12) none (.pure (.mv (.t 0)))), 
  (.mk (some 13) none (.pure (.len false (.t 12)))), 
  (.mk (some 14) none (.pure (.bin .lss (.t 11) (.t 13))))]) (.cond (.t 14) .skip (.exit 0))) (.seq (.block 1 (.seq (.any [(
  (.mk (some 17) none (.pure (.mv (.t 0)))), false), (
  (.mk (some 18) none (.pure (.mv (.t 5)))), false), (
  (.mk (some 19) none (.pure (.ixS 1 (.t 17) (.t 18)))), false), (
  (.mk (some 20) none (.ld true 1 (.t 19))), false), (
  (.mk (some 21) none (.pure (.mv (.t 1)))), false), (
  (.mk (some 22) none (.pure (.mv (.t 5)))), false), (
  (.mk (some 23) none (.pure (.ixS 1 (.t 21) (.t 22)))), false), (
  (.mk (some 24) none (.ld true 1 (.t 23))), false), (
  (.mk (some 25) none (.pure (.bin .neq (.t 20) (.t 24)))), false)]) (.cond (.t 25) (.seq (.ops [
  (.mk (some 4) none (.pure (.mv (.c (.b false)))))]) .ret) .skip))) (.ops [
  (.mk (some 15) none (.pure (.mv (.t 5)))), 
  (.mk (some 16) none (.pure (.bin .add (.t 15) (.c (.i .i64 1))))), 
  (.mk (some 5) none (.pure (.mv (.t 16))))])))))) (.seq (.ops [
  (.mk (some 4) none (.pure (.mv (.c (.b true)))))]) .ret)))))
def fn9 : AFn := (AFn.mk 21 [(.t 4), (.t 5)] (.seq (.ops [
  (.mk (some 4) none (.pure (.mv (.c (.i .i64 0))))), 
  (.mk (some 5) none (.pure (.mv (.c (.i .i64 0)))))]) (.seq (.ops [
  (.mk (some 9) none (.pure (.mv (.t 0)))), 
  (.mk (some 10) none (.pure (.mv (.t 1)))), 
  (.mk (some 11) none (.call 17 [(.t 9), (.t 10)])), 
  (.mk (some 8) none (.pure (.mv (.t 11)))), 
  (.mk (some 12) none (.pure (.ext 0 (.t 8)))), 
  (.mk (some 13) none (.pure (.ext 1 (.t 8)))), 
  (.mk (some 6) none (.al 49 [(.i .i64 0), (.i .i64 0), (.i .i64 0), (.i .i64 0), (.i .i64 0), (.i .i64 0), (.i .i64 0), (.i .i64 0), (.i .i64 0), (.i .i64 0), (.i .i64 0), (.i .i64 0), (.i .i64 0), (.i .i64 0), (.i .i64 0), (.i .i64 0), (.i .i64 0), (.i .i64 0), (.i .i64 0), (.i .i64 0), (.i .i64 0), (.i .i64 0), (.i .i64 0), (.i .i64 0), (.i .i64 0), (.i .i64 0), (.i .i64 0), (.i .i64 0), (.i .i64 0)])), 
  (.mk none none (.st 29 (.t 6) (.t 12))), 
  (.mk (some 7) none (.pure (.mv (.t 13))))]) (.seq (.seq (.ops [
  (.mk (some 14) none (.pure (.mv (.t 7)))), 
  (.mk (some 15) none (.pure (.bin .neq (.t 14) (.c (.i .i64 0)))))]) (.cond (.t 15) (.seq (.ops [
  (.mk (some 16) none (.pure (.mv (.t 7)))), 
  (.mk (some 4) none (.pure (.mv (.c (.i .i64 0))))), 
  (.mk (some 5) none (.pure (.mv (.t 16))))]) .ret) .skip)) (.seq (.ops [
  (.mk (some 17) none (.pure (.mv (.t 0)))), 
  (.mk (some 18) none (.ld false 29 (.t 6))), 
  (.mk (some 19) none (.call 21 [(.t 18)])), 
  (.mk (some 20) none (.pure (.bin .sub (.t 17) (.t 19)))), 
  (.mk (some 4) none (.pure (.mv (.t 20)))), 
  (.mk (some 5) none (.pure (.mv (.c (.i .i64 0)))))]) .ret)))))
def fn10 : AFn := (AFn.mk 20 [(.t 4), (.t 5)] (.seq (.ops [
  (.mk (some 4) none (.pure (.mv (.c (.i .i64 0))))), 
  (.mk (some 5) none (.pure (.mv (.c (.i .i64 0)))))]) (.seq (.ops [
  (.mk (some 7) none (.pure (.mv (.t 0)))), 
  (.mk (some 8) none (.pure (.mv (.t 1)))), 
  (.mk (some 9) none (.call 19 [(.t 7), (.t 8)])), 
  (.mk (some 6) none (.pure (.mv (.t 9))))]) (.seq (.seq (.ops [
  (.mk (some 10) none (.pure (.mv (.t 6)))), 
  (.mk (some 11) none (.pure (.bin .neq (.t 10) (.c (.i .i64 0)))))]) (.cond (.t 11) (.seq (.ops [
  (.mk (some 12) none (.pure (.mv (.t 6)))), 
  (.mk (some 4) none (.pure (.mv (.c (.i .i64 0))))), 
  (.mk (some 5) none (.pure (.mv (.t 12))))]) .ret) .skip)) (.seq (.ops [
  (.mk (some 13) none (.pure (.mv (.t 0)))), 
  (.mk (some 14) none (.pure (.mv (.t 1)))), 
  (.mk (some 15) none (.pure (.mv (.t 1)))), 
  (.mk (some 16) none (.pure (.len false (.t 15)))), 
  (.mk (some 17) none (.pure (.bin .shl (.c (.i .i64 1)) (.t 16)))), 
  (.mk (some 18) none (.pure (.bin .sub (.t 17) (.c (.i .i64 1))))), 
  (.mk (some 19) none (.call 20 [(.t 13), (.t 14), (.t 18)])), 
  (.mk (some 4) none (.pure (.mv (.t 19)))), 
  (.mk (some 5) none (.pure (.mv (.c (.i .i64 0)))))]) .ret)))))
def fn11 : AFn := (AFn.mk 20 [(.t 4), (.t 5)] (.seq (.ops [
  (.mk (some 4) none (.pure (.mv (.c .nsl)))), 
  (.mk (some 5) none (.pure (.mv (.c (.i .i64 0)))))]) (.seq (.ops [
  (.mk (some 9) none (.pure (.mv (.t 0)))), 
  (.mk (some 10) none (.pure (.mv (.t 1)))), 
  (.mk (some 11) none (.call 17 [(.t 9), (.t 10)])), 
  (.mk (some 8) none (.pure (.mv (.t 11)))), 
  (.mk (some 12) none (.pure (.ext 0 (.t 8)))), 
  (.mk (some 13) none (.pure (.ext 1 (.t 8)))), 
  (.mk (some 6) none (.al 49 [(.i .i64 0), (.i .i64 0), (.i .i64 0), (.i .i64 0), (.i .i64 0), (.i .i64 0), (.i .i64 0), (.i .i64 0), (.i .i64 0), (.i .i64 0), (.i .i64 0), (.i .i64 0), (.i .i64 0), (.i .i64 0), (.i .i64 0), (.i .i64 0), (.i .i64 0), (.i .i64 0), (.i .i64 0), (.i .i64 0), (.i .i64 0), (.i .i64 0), (.i .i64 0), (.i .i64 0), (.i .i64 0), (.i .i64 0), (.i .i64 0), (.i .i64 0), (.i .i64 0)])), 
  (.mk none none (.st 29 (.t 6) (.t 12))), 
  (.mk (some 7) none (.pure (.mv (.t 13))))]) (.seq (.seq (.ops [
  (.mk (some 14) none (.pure (.mv (.t 7)))), 
  (.mk (some 15) none (.pure (.bin .neq (.t 14) (.c (.i .i64 0)))))]) (.cond (.t 15) (.seq (.ops [
  (.mk (some 16) none (.pure (.mv (.t 7)))), 
  (.mk (some 4) none (.pure (.mv (.c .nsl)))), 
  (.mk (some 5) none (.pure (.mv (.t 16))))]) .ret) .skip)) (.seq (.ops [
  (.mk (some 17) none (.ld false 29 (.t 6))), 
  (.mk (some 18) none (.call 22 [(.t 17)])), 
  (.mk (some 19) none (.call 23 [(.t 18)])), 
  (.mk (some 4) none (.pure (.mv (.t 19)))), 
  (.mk (some 5) none (.pure (.mv (.c (.i .i64 0)))))]) .ret)))))
def fn12 : AFn := (AFn.mk 5 [(.t 0)] (.seq (.ops [
  (.mk (some 0) none (.pure (.mv (.c .nsl))))]) (.seq (.ops [
  (.mk (some 1) none (.pure (.build [(.i .i64 0), (.i .i64 0)] [((0, 1), (.c (.i .i64 0))), ((1, 1), (.c (.i .i64 1)))]))), 
  (.mk (some 2) none (.pure (.build [(.i .i64 0), (.i .i64 0)] [((0, 1), (.c (.i .i64 1))), ((1, 1), (.c (.i .i64 2)))]))), 
  (.mk (some 3) none (.pure (.build [(.i .i64 0), (.i .i64 0)] [((0, 1), (.c (.i .i64 2))), ((1, 1), (.c (.i .i64 0)))]))), 
  (.mk (some 4) none (.bsl 45 2 [(.i .i64 0), (.i .i64 0)] 3 [((0, 2), (.t 1)), ((2, 2), (.t 2)), ((4, 2), (.t 3))])), 
  (.mk (some 0) none (.pure (.mv (.t 4))))]) .ret)))
def fn13 : AFn := (AFn.mk 39 [(.t 6), (.t 7)] (.seq (.ops [
  (.mk (some 6) none (.pure (.mv (.c (.i .i64 0))))), 
  (.mk (some 7) none (.pure (.mv (.c (.i .i64 0)))))]) (.seq (.ops [
  (.mk (some 12) none (.pure (.mv (.t 0)))), 
  (.mk (some 13) none (.pure (.mv (.t 1)))), 
  (.mk (some 14) none (.call 17 [(.t 12), (.t 13)])), 
  (.mk (some 11) none (.pure (.mv (.t 14)))), 
  (.mk (some 15) none (.pure (.ext 0 (.t 11)))), 
  (.mk (some 16) none (.pure (.ext 1 (.t 11)))), 
  (.mk (some 8) none (.al 49 [(.i .i64 0), (.i .i64 0), (.i .i64 0), (.i .i64 0), (.i .i64 0), (.i .i64 0), (.i .i64 0), (.i .i64 0), (.i .i64 0), (.i .i64 0), (.i .i64 0), (.i .i64 0), (.i .i64 0), (.i .i64 0), (.i .i64 0), (.i .i64 0), (.i .i64 0), (.i .i64 0), (.i .i64 0), (.i .i64 0), (.i .i64 0), (.i .i64 0), (.i .i64 0), (.i .i64 0), (.i .i64 0), (.i .i64 0), (.i .i64 0), (.i .i64 0), (.i .i64 0)])), 
  (.mk none none (.st 29 (.t 8) (.t 15))), 
  (.mk (some 9) none (.pure (.mv (.t 16))))]) (.seq (.seq (.ops [
  (.mk (some 17) none (.pure (.mv (.t 9)))), 
  (.mk (some 18) none (.pure (.bin .neq (.t 17) (.c (.i .i64 0)))))]) (.cond (.t 18) (.seq (.ops [
  (.mk (some 19) none (.pure (.mv (.t 9)))), 
  (.mk (some 6) none (.pure (.mv (.c (.i .i64 0))))), 
  (.mk (some 7) none (.pure (.mv (.t 19))))]) .ret) .skip)) (.seq (.seq (.ops [
  (.mk (some 20) none (.pure (.mv (.t 2)))), 
  (.mk (some 21) none (.call 24 [(.c (.i .i64 0)), (.t 20), (.c (.i .i64 20))])), 
  (.mk (some 22) none (.pure (.not (.t 21))))]) (.cond (.t 22) (.seq (.ops [
  (.mk (some 6) none (.pure (.mv (.c (.i .i64 0))))), 
  (.mk (some 7) none (.pure (.mv (.c (.i .i64 2)))))]) .ret) .skip)) (.seq (.ops [
  (.mk (some 23) none (.ld false 29 (.t 8))), 
  (.mk (some 24) none (.call 21 [(.t 23)])), 
  (.mk (some 10) none (.pure (.mv (.t 24))))]) (.seq (.flt [(
  (.mk (some 25) none (.pure (.mv (.t 2)))), false), (
  (.mk (some 26) none (.pure (.mv (.t 0)))), false), (
  (.mk (some 27) none (.pure (.mv (.t 10)))), false), (
  (.mk (some 28) none (.pure (.bin .sub (.t 26) (.t 27)))), false), (
  (.mk (some 29) none (.call 25 [(.t 25), (.t 28)])), false), (
  (.mk (some 30) none (.pure (.mv (.t 10)))), false), (
  (.mk (some 31) none (.call 25 [(.c (.i .i64 (-1))), (.t 30)])), false), (
  (.mk (some 32) none (.pure (.bin .mul (.t 29) (.t 31)))), false), (
  (.mk (some 33) none (.ld false 29 (.t 8))), true), (
  (.mk (some 34) none (.call 22 [(.t 33)])), true), (
  (.mk (some 35) none (.pure (.mv (.t 2)))), false), (
  (.mk (some 36) none (.pure (.bin .sub (.c (.i .i64 1)) (.t 35)))), false), (
  (.mk (some 37) none (.call 26 [(.t 34), (.t 36), (.c (.i .i64 0))])), true), (
  (.mk (some 38) none (.pure (.bin .mul (.t 32) (.t 37)))), false), (
  (.mk (some 6) none (.pure (.mv (.t 38)))), false), (
  (.mk (some 7) none (.pure (.mv (.c (.i .i64 0))))), false)]) .ret)))))))
def fn14 : AFn := (AFn.mk 25 [(.t 4), (.t 5), (.t 6)] (.seq (.ops [
  (.mk (some 4) none (.pure (.mv (.c (.i .i64 0))))), 
  (.mk (some 5) none (.pure (.mv (.c (.i .i64 0))))), 
  (.mk (some 6) none (.pure (.mv (.c (.i .i64 0)))))]) (.seq (.ops [
  (.mk (some 11) none (.pure (.mv (.t 0)))), 
  (.mk (some 12) none (.pure (.mv (.t 1)))), 
  (.mk (some 13) none (.call 17 [(.t 11), (.t 12)])), 
  (.mk (some 10) none (.pure (.mv (.t 13)))), 
  (.mk (some 14) none (.pure (.ext 0 (.t 10)))), 
  (.mk (some 15) none (.pure (.ext 1 (.t 10)))), 
  (.mk (some 7) none (.al 49 [(.i .i64 0), (.i .i64 0), (.i .i64 0), (.i .i64 0), (.i .i64 0), (.i .i64 0), (.i .i64 0), (.i .i64 0), (.i .i64 0), (.i .i64 0), (.i .i64 0), (.i .i64 0), (.i .i64 0), (.i .i64 0), (.i .i64 0), (.i .i64 0), (.i .i64 0), (.i .i64 0), (.i .i64 0), (.i .i64 0), (.i .i64 0), (.i .i64 0), (.i .i64 0), (.i .i64 0), (.i .i64 0), (.i .i64 0), (.i .i64 0), (.i .i64 0), (.i .i64 0)])), 
  (.mk none none (.st 29 (.t 7) (.t 14))), 
  (.mk (some 8) none (.pure (.mv (.t 15))))]) (.seq (.seq (.ops [
  (.mk (some 16) none (.pure (.mv (.t 8)))), 
  (.mk (some 17) none (.pure (.bin .neq (.t 16) (.c (.i .i64 0)))))]) (.cond (.t 17) (.seq (.ops [
  (.mk (some 18) none (.pure (.mv (.t 8)))), 
  (.mk (some 4) none (.pure (.mv (.c (.i .i64 0))))), 
  (.mk (some 5) none (.pure (.mv (.c (.i .i64 0))))), 
  (.mk (some 6) none (.pure (.mv (.t 18))))]) .ret) .skip)) (.seq (.ops [
  (.mk (some 19) none (.ld false 29 (.t 7))), 
  (.mk (some 20) none (.call 22 [(.t 19)])), 
  (.mk (some 9) none (.al 58 [(.i .i64 0), (.i .i64 0), (.i .i64 0), (.i .i64 0), (.i .i64 0), (.i .i64 0), (.i .i64 0), (.i .i64 0), (.i .i64 0), (.i .i64 0), (.i .i64 0), (.i .i64 0), (.i .i64 0), (.i .i64 0), (.i .i64 0), (.i .i64 0), (.i .i64 0), (.i .i64 0), (.i .i64 0), (.i .i64 0), (.i .i64 0), (.i .i64 0), (.i .i64 0), (.i .i64 0), (.i .i64 0), (.i .i64 0), (.i .i64 0), (.i .i64 0), (.i .i64 0), (.i .i64 0), (.i .i64 0), (.i .i64 0), (.i .i64 0), (.i .i64 0), (.i .i64 0), (.i .i64 0), (.i .i64 0), (.i .i64 0), (.i .i64 0), (.i .i64 0), (.i .i64 0), (.i .i64 0), (.i .i64 0), (.i .i64 0), (.i .i64 0), (.i .i64 0), (.i .i64 0), (.i .i64 0), (.i .i64 0), (.i .i64 0), (.i .i64 0), (.i .i64 0), (.i .i64 0), (.i .i64 0), (.i .i64 0), (.i .i64 0), (.i .i64 0), (.i .i64 0), (.i .i64 0), (.i .i64 0), (.i .i64 0), (.i .i64 0), (.i .i64 0), (.i .i64 0), (.i .i64 0), (.i .i64 0), (.i .i64 0), (.i .i64 0), (.i .i64 0), (.i .i64 0), (.i .i64 0), (.i .i64 0), (.i .i64 0), (.i .i64 0), (.i .i64 0), (.i .i64 0), (.i .i64 0), (.i .i64 0), (.i .i64 0), (.i .i64 0), (.i .i64 0), (.i .i64 0), (.i .i64 0), (.i .i64 0), (.i .i64 0), (.i .i64 0), (.i .i64 0), (.i .i64 0), (.i .i64 0), (.i .i64 0), (.i .i64 0), (.i .i64 0), (.i .i64 0), (.i .i64 0), (.i .i64 0), (.i .i64 0), (.i .i64 0), (.i .i64 0), (.i .i64 0), (.i .i64 0), (.i .i64 0), (.i .i64 0), (.i .i64 0), (.i .i64 0), (.i .i64 0), (.i .i64 0), (.i .i64 0), (.i .i64 0), (.i .i64 0), (.i .i64 0), (.i .i64 0), (.i .i64 0), (.i .i64 0), (.i .i64 0), (.i .i64 0), (.i .i64 0), (.i .i64 0), (.i .i64 0), (.i .i64 0), (.i .i64 0)])), 
  (.mk none none (.st 120 (.t 9) (.t 20)))]) (.seq (.flt [(
  (.mk (some 21) none (.ld false 120 (.t 9))), false), (
  (.mk (some 22) none (.call 26 [(.t 21), (.c (.i .i64 2)), (.c (.i .i64 0))])), false), (
  (.mk (some 23) none (.ld false 120 (.t 9))), true), (
  (.mk (some 24) none (.call 26 [(.t 23), (.c (.i .i64 0)), (.c (.i .i64 2))])), true), (
  (.mk (some 4) none (.pure (.mv (.t 22)))), false), (
  (.mk (some 5) none (.pure (.mv (.t 24)))), false), (
  (.mk (some 6) none (.pure (.mv (.c (.i .i64 0))))), false)]) .ret))))))
def fn15 : AFn := (AFn.mk 45 [(.c 6 false 2), (.t 7)] (.seq (.ops [
  (.mk (some 5) none (.bx 41 2 (.t 2))), 
  (.mk (some 6) none (.al 41 [(.i .i64 0), (.i .i64 0)])), 
  (.mk (some 7) none (.pure (.mv (.c (.i .i64 0)))))]) (.seq (.ops [
  (.mk (some 11) none (.pure (.mv (.t 0)))), 
  (.mk (some 12) none (.pure (.mv (.t 1)))), 
  (.mk (some 13) none (.call 17 [(.t 11), (.t 12)])), 
  (.mk (some 10) none (.pure (.mv (.t 13)))), 
  (.mk (some 14) none (.pure (.ext 0 (.t 10)))), 
  (.mk (some 15) none (.pure (.ext 1 (.t 10)))), 
  (.mk (some 8) none (.al 49 [(.i .i64 0), (.i .i64 0), (.i .i64 0), (.i .i64 0), (.i .i64 0), (.i .i64 0), (.i .i64 0), (.i .i64 0), (.i .i64 0), (.i .i64 0), (.i .i64 0), (.i .i64 0), (.i .i64 0), (.i .i64 0), (.i .i64 0), (.i .i64 0), (.i .i64 0), (.i .i64 0), (.i .i64 0), (.i .i64 0), (.i .i64 0), (.i .i64 0), (.i .i64 0), (.i .i64 0), (.i .i64 0), (.i .i64 0), (.i .i64 0), (.i .i64 0), (.i .i64 0)])), 
  (.mk none none (.st 29 (.t 8) (.t 14))), 
  (.mk (some 9) none (.pure (.mv (.t 15))))]) (.seq (.seq (.ops [
  (.mk (some 16) none (.pure (.mv (.t 9)))), 
  (.mk (some 17) none (.pure (.bin .neq (.t 16) (.c (.i .i64 0)))))]) (.cond (.t 17) (.seq (.ops [
  (.mk (some 18) none (.pure (.build [(.i .i64 0), (.i .i64 0)] []))), 
  (.mk (some 19) none (.pure (.mv (.t 9)))), 
  (.mk none none (.st 2 (.t 6) (.t 18))), 
  (.mk (some 7) none (.pure (.mv (.t 19))))]) .ret) .skip)) (.seq (.seq (.flt [(
  (.mk (some 20) none (.pure (.faddr 1 (.t 5)))), false), (
  (.mk (some 21) none (.ld true 1 (.t 20))), false), (
  (.mk (some 22) none (.call 24 [(.c (.i .i64 1)), (.t 21), (.c (.i .i64 8))])), false), (
  (.mk (some 23) none (.pure (.not (.t 22)))), false), (
  (.mk (some 24) none (.pure (.mv (.t 23)))), false), (
  (.mk (some 25) (some (24, false)) (.pure (.faddr 0 (.t 5)))), false), (
  (.mk (some 26) (some (24, false)) (.ld true 1 (.t 25))), false), (
  (.mk (some 27) (some (24, false)) (.pure (.faddr 1 (.t 5)))), false), (
  (.mk (some 28) (some (24, false)) (.ld true 1 (.t 27))), false), (
  (.mk (some 29) (some (24, false)) (.call 24 [(.c (.i .i64 0)), (.t 26), (.t 28)])), false), (
  (.mk (some 30) (some (24, false)) (.pure (.not (.t 29)))), false), (
  (.mk (some 31) none (.pure (.pick (.t 24) (.c (.b true)) (.t 30)))), false), (
  (.mk (some 32) none (.pure (.mv (.t 31)))), false), (
  (.mk (some 33) (some (32, false)) (.pure (.faddr 0 (.t 5)))), false), (
  (.mk (some 34) (some (32, false)) (.ld true 1 (.t 33))), false), (
  (.mk (some 35) (some (32, false)) (.pure (.faddr 1 (.t 5)))), false), (
  (.mk (some 36) (some (32, false)) (.ld true 1 (.t 35))), false), (
  (.mk (some 37) (some (32, false)) (.call 27 [(.t 34), (.t 36)])), false), (
  (.mk (some 38) (some (32, false)) (.ld false 2 (.t 5))), true), (
  (.mk (some 39) (some (32, false)) (.pure (.seq true [(0, false), (1, false)] (.t 37) (.t 38)))), false), (
  (.mk (some 40) none (.pure (.pick (.t 32) (.c (.b true)) (.t 39)))), false)]) (.cond (.t 40) (.seq (.ops [
  (.mk (some 41) none (.pure (.build [(.i .i64 0), (.i .i64 0)] []))), 
  (.mk none none (.st 2 (.t 6) (.t 41))), 
  (.mk (some 7) none (.pure (.mv (.c (.i .i64 2)))))]) .ret) .skip)) (.seq (.ops [
  (.mk (some 42) none (.ld false 29 (.t 8))), 
  (.mk (some 43) none (.ld false 2 (.t 5))), 
  (.mk (some 44) none (.call 28 [(.t 42), (.t 43)])), 
  (.mk none none (.st 2 (.t 6) (.t 44))), 
  (.mk (some 7) none (.pure (.mv (.c (.i .i64 0)))))]) .ret))))))
def fn16 : AFn := (AFn.mk 27 [(.t 4)] (.seq (.ops [
  (.mk (some 4) none (.pure (.mv (.c (.b false)))))]) (.seq (.seq (.ops [
  (.mk (some 6) none (.pure (.mv (.t 0)))), 
  (.mk (some 7) none (.pure (.len false (.t 6)))), 
  (.mk (some 8) none (.pure (.mv (.t 1)))), 
  (.mk (some 9) none (.pure (.len false (.t 8)))), 
  (.mk (some 10) none (.pure (.bin .neq (.t 7) (.t 9))))]) (.cond (.t 10) (.seq (.ops [
  (.mk (some 4) none (.pure (.mv (.c (.b false)))))]) .ret) .skip)) (.seq (.seq (.ops [
  (.mk (some 5) none (.pure (.mv (.c (.i .i64 0)))))]) (.block 0 (.loop (.seq (.seq (.ops [
  (.mk (some 11) none (.pure (.mv (.t 5)))), 
  (.mk (some 12) none (.pure (.mv (.t 0)))), 
  (.mk (some 13) none (.pure (.len false (.t 12)))), 
  (.mk (some 14) none (.pure (.bin .lss (.t 11) (.t 13))))]) (.cond (.t 14) .skip (.exit 0))) (.seq (.block 1 (.seq (.flt [(
  (.mk (some 17) none (.pure (.mv (.t 0)))), false), (
  (.mk (some 18) none (.pure (.mv (.t 5)))), false), (
  (.mk (some 19) none (.pure (.ixS 1 (.t 17) (.t 18)))), false), (
  (.mk (some 20) none (.ld true 1 (.t 19))), false), (
  (.mk (some 21) none (.pure (.mv (.t 1)))), false), (
  (.mk (some 22) none (.pure (.mv (.t 5)))), false), (
  (.mk (some 23) none (.pure (.ixS 1 (.t 21) (.t 22)))), false), (
  (.mk (some 24) none (.ld true 1 (.t 23))), false), (
  (.mk (some 25) none (.call 8 [(.t 20), (.t 24)])), false), (
  (.mk (some 26) none (.pure (.not (.t 25)))), false)]) (.cond (.t 26) (.seq (.ops [
  (.mk (some 4) none (.pure (.mv (.c (.b false)))))]) .ret) .skip))) (.ops [
  (.mk (some 15) none (.pure (.mv (.t 5)))), 
  (.mk (some 16) none (.pure (.bin .add (.t 15) (.c (.i .i64 1))))), 
  (.mk (some 5) none (.pure (.mv (.t 16))))])))))) (.seq (.ops [
  (.mk (some 4) none (.pure (.mv (.c (.b true)))))]) .ret)))))
def fn17 : AFn := (AFn.mk 56 [(.c 4 false 29), (.t 5)] (.seq (.ops [
  (.mk (some 4) none (.al 49 [(.i .i64 0), (.i .i64 0), (.i .i64 0), (.i .i64 0), (.i .i64 0), (.i .i64 0), (.i .i64 0), (.i .i64 0), (.i .i64 0), (.i .i64 0), (.i .i64 0), (.i .i64 0), (.i .i64 0), (.i .i64 0), (.i .i64 0), (.i .i64 0), (.i .i64 0), (.i .i64 0), (.i .i64 0), (.i .i64 0), (.i .i64 0), (.i .i64 0), (.i .i64 0), (.i .i64 0), (.i .i64 0), (.i .i64 0), (.i .i64 0), (.i .i64 0), (.i .i64 0)])), 
  (.mk (some 5) none (.pure (.mv (.c (.i .i64 0)))))]) (.seq (.seq (.ops [
  (.mk (some 9) none (.pure (.mv (.t 0)))), 
  (.mk (some 10) none (.pure (.bin .lss (.t 9) (.c (.i .i64 1))))), 
  (.mk (some 11) none (.pure (.mv (.t 10)))), 
  (.mk (some 12) (some (11, false)) (.pure (.mv (.t 0)))), 
  (.mk (some 13) (some (11, false)) (.pure (.bin .gtr (.t 12) (.c (.i .i64 8))))), 
  (.mk (some 14) none (.pure (.pick (.t 11) (.c (.b true)) (.t 13))))]) (.cond (.t 14) (.seq (.ops [
  (.mk (some 15) none (.pure (.build [(.i .i64 0), (.i .i64 0), (.i .i64 0), (.i .i64 0), (.i .i64 0), (.i .i64 0), (.i .i64 0), (.i .i64 0), (.i .i64 0), (.i .i64 0), (.i .i64 0), (.i .i64 0), (.i .i64 0), (.i .i64 0), (.i .i64 0), (.i .i64 0), (.i .i64 0), (.i .i64 0), (.i .i64 0), (.i .i64 0), (.i .i64 0), (.i .i64 0), (.i .i64 0), (.i .i64 0), (.i .i64 0), (.i .i64 0), (.i .i64 0), (.i .i64 0), (.i .i64 0)] []))), 
  (.mk none none (.st 29 (.t 4) (.t 15))), 
  (.mk (some 5) none (.pure (.mv (.c (.i .i64 2)))))]) .ret) .skip)) (.seq (.seq (.ops [
  (.mk (some 16) none (.pure (.mv (.t 1)))), 
  (.mk (some 17) none (.pure (.len false (.t 16)))), 
  (.mk (some 18) none (.pure (.bin .gtr (.t 17) (.c (.i .i64 14)))))]) (.cond (.t 18) (.seq (.ops [
  (.mk (some 19) none (.pure (.build [(.i .i64 0), (.i .i64 0), (.i .i64 0), (.i .i64 0), (.i .i64 0), (.i .i64 0), (.i .i64 0), (.i .i64 0), (.i .i64 0), (.i .i64 0), (.i .i64 0), (.i .i64 0), (.i .i64 0), (.i .i64 0), (.i .i64 0), (.i .i64 0), (.i .i64 0), (.i .i64 0), (.i .i64 0), (.i .i64 0), (.i .i64 0), (.i .i64 0), (.i .i64 0), (.i .i64 0), (.i .i64 0), (.i .i64 0), (.i .i64 0), (.i .i64 0), (.i .i64 0)] []))), 
  (.mk none none (.st 29 (.t 4) (.t 19))), 
  (.mk (some 5) none (.pure (.mv (.c (.i .i64 3)))))]) .ret) .skip)) (.seq (.seq (.ops [
  (.mk (some 20) none (.pure (.mv (.t 1)))), 
  (.mk (some 21) none (.pure (.len false (.t 20)))), 
  (.mk (some 22) none (.pure (.mv (.c (.i .i64 0)))))]) (.block 0 (.loop (.seq (.ops [
  (.mk (some 23) none (.pure (.bin .lss (.t 22) (.t 21))))]) (.seq (.cond (.t 23) .skip (.exit 0)) (.seq (.block 1 (.seq (.ops [
  (.mk (some 24) none (.pure (.ixS 2 (.t 20) (.t 22)))), 
  (.mk (some 25) none (.ld false 2 (.t 24))), 
  (.mk (some 7) none (.al 45 [(.i .i64 0), (.i .i64 0)])), 
  (.mk none none (.st 2 (.t 7) (.t 25)))]) (.seq (.ops [
  (.mk (some 26) none (.pure (.faddr 0 (.t 7)))), 
  (.mk (some 27) none (.ld true 1 (.t 26))), 
  (.mk (some 28) none (.pure (.bin .lss (.t 27) (.c (.i .i64 0))))), 
  (.mk (some 29) none (.pure (.mv (.t 28)))), 
  (.mk (some 30) (some (29, false)) (.pure (.faddr 0 (.t 7)))), 
  (.mk (some 31) (some (29, false)) (.ld true 1 (.t 30))), 
  (.mk (some 32) (some (29, false)) (.pure (.mv (.t 0)))), 
  (.mk (some 33) (some (29, false)) (.pure (.bin .geq (.t 31) (.t 32)))), 
  (.mk (some 34) none (.pure (.pick (.t 29) (.c (.b true)) (.t 33)))), 
  (.mk (some 35) none (.pure (.mv (.t 34)))), 
  (.mk (some 36) (some (35, false)) (.pure (.faddr 1 (.t 7)))), 
  (.mk (some 37) (some (35, false)) (.ld true 1 (.t 36))), 
  (.mk (some 38) (some (35, false)) (.pure (.bin .lss (.t 37) (.c (.i .i64 0))))), 
  (.mk (some 39) none (.pure (.pick (.t 35) (.c (.b true)) (.t 38)))), 
  (.mk (some 40) none (.pure (.mv (.t 39)))), 
  (.mk (some 41) (some (40, false)) (.pure (.faddr 1 (.t 7)))), 
  (.mk (some 42) (some (40, false)) (.ld true 1 (.t 41))), 
  (.mk (some 43) (some (40, false)) (.pure (.mv (.t 0)))), 
  (.mk (some 44) (some (40, false)) (.pure (.bin .geq (.t 42) (.t 43)))), 
  (.mk (some 45) none (.pure (.pick (.t 40) (.c (.b true)) (.t 44))))]) (.cond (.t 45) (.seq (.ops [
  (.mk (some 46) none (.pure (.build [(.i .i64 0), (.i .i64 0), (.i .i64 0), (.i .i64 0), (.i .i64 0), (.i .i64 0), (.i .i64 0), (.i .i64 0), (.i .i64 0), (.i .i64 0), (.i .i64 0), (.i .i64 0), (.i .i64 0), (.i .i64 0), (.i .i64 0), (.i .i64 0), (.i .i64 0), (.i .i64 0), (.i .i64 0), (.i .i64 0), (.i .i64 0), (.i .i64 0), (.i .i64 0), (.i .i64 0), (.i .i64 0), (.i .i64 0), (.i .i64 0), (.i .i64 0), (.i .i64 0)] []))), 
  (.mk none none (.st 29 (.t 4) (.t 46))), 
  (.mk (some 5) none (.pure (.mv (.c (.i .i64 2)))))]) .ret) .skip)))) (.ops [
  (.mk (some 47) none (.pure (.bin .add (.t 22) (.c (.i .i64 1))))), 
  (.mk (some 22) none (.pure (.mv (.t 47))))]))))))) (.seq (.ops [
  (.mk (some 48) none (.pure (.mv (.t 1)))), 
  (.mk (some 49) none (.pure (.len false (.t 48)))), 
  (.mk (some 50) none (.pure (.build [(.i .i64 0), (.i .i64 0), (.i .i64 0), (.i .i64 0), (.i .i64 0), (.i .i64 0), (.i .i64 0), (.i .i64 0), (.i .i64 0), (.i .i64 0), (.i .i64 0), (.i .i64 0), (.i .i64 0), (.i .i64 0), (.i .i64 0), (.i .i64 0), (.i .i64 0), (.i .i64 0), (.i .i64 0), (.i .i64 0), (.i .i64 0), (.i .i64 0), (.i .i64 0), (.i .i64 0), (.i .i64 0), (.i .i64 0), (.i .i64 0), (.i .i64 0), (.i .i64 0)] [((0, 1), (.t 49))]))), 
  (.mk (some 8) none (.al 49 [(.i .i64 0), (.i .i64 0), (.i .i64 0), (.i .i64 0), (.i .i64 0), (.i .i64 0), (.i .i64 0), (.i .i64 0), (.i .i64 0), (.i .i64 0), (.i .i64 0), (.i .i64 0), (.i .i64 0), (.i .i64 0), (.i .i64 0), (.i .i64 0), (.i .i64 0), (.i .i64 0), (.i .i64 0), (.i .i64 0), (.i .i64 0), (.i .i64 0), (.i .i64 0), (.i .i64 0), (.i .i64 0), (.i .i64 0), (.i .i64 0), (.i .i64 0), (.i .i64 0)])), 
  (.mk none none (.st 29 (.t 8) (.t 50)))]) (.seq (.ops [
  (.mk (some 51) none (.pure (.faddr 1 (.t 8)))), 
  (.mk (some 52) none (.pure (.slA 14 2 (.t 51) none none))), 
  (.mk (some 53) none (.pure (.mv (.t 1)))), 
  (.mk (some 54) none (.cpy 2 (.t 52) (.t 53)))]) (.seq (.ops [
  (.mk (some 55) none (.ld false 29 (.t 8))), 
  (.mk none none (.st 29 (.t 4) (.t 55))), 
  (.mk (some 5) none (.pure (.mv (.c (.i .i64 0)))))]) .ret))))))))
def fn18 : AFn := (AFn.mk 25 [(.t 4)] (.seq (.ops [
  (.mk (some 2) none (.bx 49 29 (.t 0))), 
  (.mk (some 4) none (.pure (.mv (.c (.b false)))))]) (.seq (.ops [
  (.mk (some 6) none (.ld false 29 (.t 2))), 
  (.mk (some 7) none (.pure (.mv (.t 1)))), 
  (.mk (some 8) none (.call 29 [(.t 6), (.t 7)])), 
  (.mk (some 9) none (.call 30 [(.t 8)])), 
  (.mk (some 5) none (.al 56 [(.i .i64 0), (.i .i64 0), (.i .i64 0), (.i .i64 0), (.i .i64 0), (.i .i64 0), (.i .i64 0), (.i .i64 0)])), 
  (.mk none none (.st 8 (.t 5) (.t 9)))]) (.seq (.any [(
  (.mk (some 10) none (.pure (.mv (.t 1)))), false), (
  (.mk (some 11) none (.pure (.faddr 1 (.t 2)))), false), (
  (.mk (some 12) none (.pure (.ixA 14 2 (.t 11) (.t 10)))), false), (
  (.mk (some 13) none (.pure (.faddr 0 (.t 12)))), false), (
  (.mk (some 14) none (.ld true 1 (.t 13))), false), (
  (.mk (some 15) none (.pure (.ixA 8 1 (.t 5) (.t 14)))), false), (
  (.mk (some 16) none (.ld true 1 (.t 15))), false), (
  (.mk (some 17) none (.pure (.mv (.t 1)))), false), (
  (.mk (some 18) none (.pure (.faddr 1 (.t 2)))), false), (
  (.mk (some 19) none (.pure (.ixA 14 2 (.t 18) (.t 17)))), false), (
  (.mk (some 20) none (.pure (.faddr 1 (.t 19)))), false), (
  (.mk (some 21) none (.ld true 1 (.t 20))), false), (
  (.mk (some 22) none (.pure (.ixA 8 1 (.t 5) (.t 21)))), false), (
  (.mk (some 23) none (.ld true 1 (.t 22))), false), (
  (.mk (some 24) none (.pure (.bin .neq (.t 16) (.t 23)))), false), (
  (.mk (some 4) none (.pure (.mv (.t 24)))), false)]) .ret))))
def fn19 : AFn := (AFn.mk 53 [(.t 4)] (.seq (.ops [
  (.mk (some 4) none (.pure (.mv (.c (.i .i64 0)))))]) (.seq (.seq (.ops [
  (.mk (some 6) none (.pure (.mv (.t 0)))), 
  (.mk (some 7) none (.pure (.bin .lss (.t 6) (.c (.i .i64 1))))), 
  (.mk (some 8) none (.pure (.mv (.t 7)))), 
  (.mk (some 9) (some (8, false)) (.pure (.mv (.t 0)))), 
  (.mk (some 10) (some (8, false)) (.pure (.bin .gtr (.t 9) (.c (.i .i64 8))))), 
  (.mk (some 11) none (.pure (.pick (.t 8) (.c (.b true)) (.t 10))))]) (.cond (.t 11) (.seq (.ops [
  (.mk (some 4) none (.pure (.mv (.c (.i .i64 2)))))]) .ret) .skip)) (.seq (.seq (.ops [
  (.mk (some 12) none (.pure (.mv (.t 1)))), 
  (.mk (some 13) none (.pure (.len false (.t 12)))), 
  (.mk (some 14) none (.pure (.bin .gtr (.t 13) (.c (.i .i64 14)))))]) (.cond (.t 14) (.seq (.ops [
  (.mk (some 4) none (.pure (.mv (.c (.i .i64 3)))))]) .ret) .skip)) (.seq (.seq (.ops [
  (.mk (some 5) none (.pure (.mv (.c (.i .i64 0)))))]) (.block 0 (.loop (.seq (.seq (.ops [
  (.mk (some 15) none (.pure (.mv (.t 5)))), 
  (.mk (some 16) none (.pure (.mv (.t 1)))), 
  (.mk (some 17) none (.pure (.len false (.t 16)))), 
  (.mk (some 18) none (.pure (.bin .lss (.t 15) (.t 17))))]) (.cond (.t 18) .skip (.exit 0))) (.seq (.block 1 (.seq (.ops [
  (.mk (some 21) none (.pure (.mv (.t 1)))), 
  (.mk (some 22) none (.pure (.mv (.t 5)))), 
  (.mk (some 23) none (.pure (.ixS 2 (.t 21) (.t 22)))), 
  (.mk (some 24) none (.pure (.faddr 0 (.t 23)))), 
  (.mk (some 25) none (.ld true 1 (.t 24))), 
  (.mk (some 26) none (.pure (.bin .lss (.t 25) (.c (.i .i64 0))))), 
  (.mk (some 27) none (.pure (.mv (.t 26)))), 
  (.mk (some 28) (some (27, false)) (.pure (.mv (.t 1)))), 
  (.mk (some 29) (some (27, false)) (.pure (.mv (.t 5)))), 
  (.mk (some 30) (some (27, false)) (.pure (.ixS 2 (.t 28) (.t 29)))), 
  (.mk (some 31) (some (27, false)) (.pure (.faddr 0 (.t 30)))), 
  (.mk (some 32) (some (27, false)) (.ld true 1 (.t 31))), 
  (.mk (some 33) (some (27, false)) (.pure (.mv (.t 0)))), 
  (.mk (some 34) (some (27, false)) (.pure (.bin .geq (.t 32) (.t 33)))), 
  (.mk (some 35) none (.pure (.pick (.t 27) (.c (.b true)) (.t 34)))), 
  (.mk (some 36) none (.pure (.mv (.t 35)))), 
  (.mk (some 37) (some (36, false)) (.pure (.mv (.t 1)))), 
  (.mk (some 38) (some (36, false)) (.pure (.mv (.t 5)))), 
  (.mk (some 39) (some (36, false)) (.pure (.ixS 2 (.t 37) (.t 38)))), 
  (.mk (some 40) (some (36, false)) (.pure (.faddr 1 (.t 39)))), 
  (.mk (some 41) (some (36, false)) (.ld true 1 (.t 40))), 
  (.mk (some 42) (some (36, false)) (.pure (.bin .lss (.t 41) (.c (.i .i64 0))))), 
  (.mk (some 43) none (.pure (.pick (.t 36) (.c (.b true)) (.t 42)))), 
  (.mk (some 44) none (.pure (.mv (.t 43)))), 
  (.mk (some 45) (some (44, false)) (.pure (.mv (.t 1)))), 
  (.mk (some 46) (some (44, false)) (.pure (.mv (.t 5)))), 
  (.mk (some 47) (some (44, false)) (.pure (.ixS 2 (.t 45) (.t 46)))), 
  (.mk (some 48) (some (44, false)) (.pure (.faddr 1 (.t 47)))), 
  (.mk (some 49) (some (44, false)) (.ld true 1 (.t 48))), 
  (.mk (some 50) (some (44, false)) (.pure (.mv (.t 0)))), 
  (.mk (some 51) (some (44, false)) (.pure (.bin .geq (.t 49) (.t 50)))), 
  (.mk (some 52) none (.pure (.pick (.t 44) (.c (.b true)) (.t 51))))]) (.cond (.t 52) (.seq (.ops [
  (.mk (some 4) none (.pure (.mv (.c (.i .i64 2)))))]) .ret) .skip))) (.ops [
  (.mk (some 19) none (.pure (.mv (.t 5)))), 
  (.mk (some 20) none (.pure (.bin .add (.t 19) (.c (.i .i64 1))))), 
  (.mk (some 5) none (.pure (.mv (.t 20))))])))))) (.seq (.ops [
  (.mk (some 4) none (.pure (.mv (.c (.i .i64 0)))))]) .ret))))))
def fn20 : AFn := (AFn.mk 76 [(.t 6)] (.seq (.ops [
  (.mk (some 6) none (.pure (.mv (.c (.i .i64 0)))))]) (.seq (.ops [
  (.mk (some 14) none (.pure (.mv (.t 0)))), 
  (.mk (some 15) none (.mk 3 1 8 [(.i .i64 0)] (.t 14) (.t 14))), 
  (.mk (some 7) none (.pure (.mv (.t 15))))]) (.seq (.seq (.ops [
  (.mk (some 8) none (.pure (.mv (.c (.i .i64 0)))))]) (.block 0 (.loop (.seq (.seq (.ops [
  (.mk (some 16) none (.pure (.mv (.t 8)))), 
  (.mk (some 17) none (.pure (.mv (.t 0)))), 
  (.mk (some 18) none (.pure (.bin .lss (.t 16) (.t 17))))]) (.cond (.t 18) .skip (.exit 0))) (.seq (.block 1 (.ops [
  (.mk (some 21) none (.pure (.mv (.t 7)))), 
  (.mk (some 22) none (.pure (.mv (.t 8)))), 
  (.mk (some 23) none (.pure (.mv (.t 8)))), 
  (.mk (some 24) none (.pure (.ixS 1 (.t 21) (.t 22)))), 
  (.mk none none (.st 1 (.t 24) (.t 23)))])) (.ops [
  (.mk (some 19) none (.pure (.mv (.t 8)))), 
  (.mk (some 20) none (.pure (.bin .add (.t 19) (.c (.i .i64 1))))), 
  (.mk (some 8) none (.pure (.mv (.t 20))))])))))) (.seq (.ops [
  (.mk (some 25) none (.pure (.mv (.t 0)))), 
  (.mk (some 9) none (.pure (.mv (.t 25))))]) (.seq (.seq (.ops [
  (.mk (some 10) none (.pure (.mv (.c (.i .i64 0)))))]) (.block 2 (.loop (.seq (.seq (.ops [
  (.mk (some 26) none (.pure (.mv (.t 10)))), 
  (.mk (some 27) none (.pure (.mv (.t 1)))), 
  (.mk (some 28) none (.pure (.len false (.t 27)))), 
  (.mk (some 29) none (.pure (.bin .lss (.t 26) (.t 28))))]) (.cond (.t 29) .skip (.exit 2))) (.seq (.block 3 (.seq (.any [(
  (.mk (some 32) none (.pure (.mv (.t 7)))), false), (
  (.mk (some 33) none (.pure (.mv (.t 1)))), false), (
  (.mk (some 34) none (.pure (.mv (.t 10)))), false), (
  (.mk (some 35) none (.pure (.ixS 2 (.t 33) (.t 34)))), false), (
  (.mk (some 36) none (.pure (.faddr 0 (.t 35)))), false), (
  (.mk (some 37) none (.ld true 1 (.t 36))), false), (
  (.mk (some 38) none (.pure (.ixS 1 (.t 32) (.t 37)))), false), (
  (.mk (some 39) none (.ld true 1 (.t 38))), false), (
  (.mk (some 40) none (.pure (.mv (.t 7)))), false), (
  (.mk (some 41) none (.pure (.mv (.t 1)))), false), (
  (.mk (some 42) none (.pure (.mv (.t 10)))), false), (
  (.mk (some 43) none (.pure (.ixS 2 (.t 41) (.t 42)))), false), (
  (.mk (some 44) none (.pure (.faddr 1 (.t 43)))), false), (
  (.mk (some 45) none (.ld true 1 (.t 44))), false), (
  (.mk (some 46) none (.pure (.ixS 1 (.t 40) (.t 45)))), false), (
  (.mk (some 47) none (.ld true 1 (.t 46))), false), (
  (.mk (some 11) none (.pure (.mv (.t 39)))), false), (
  (.mk (some 12) none (.pure (.mv (.t 47)))), false)]) (.seq (.seq (.ops [
  (.mk (some 48) none (.pure (.mv (.t 2)))), 
  (.mk (some 49) none (.pure (.mv (.t 10)))), 
  (.mk (some 50) none (.pure (.bin .shr (.t 48) (.t 49)))), 
  (.mk (some 51) none (.pure (.bin .rem (.t 50) (.c (.i .i64 2))))), 
  (.mk (some 52) none (.pure (.bin .eql (.t 51) (.c (.i .i64 0))))), 
  (.mk (some 53) none (.pure (.mv (.t 52)))), 
  (.mk (some 54) (some (53, false)) (.pure (.mv (.t 11)))), 
  (.mk (some 55) (some (53, false)) (.pure (.mv (.t 12)))), 
  (.mk (some 56) (some (53, false)) (.pure (.bin .eql (.t 54) (.t 55)))), 
  (.mk (some 57) none (.pure (.pick (.t 53) (.c (.b true)) (.t 56))))]) (.cond (.t 57) (.exit 3) .skip)) (.seq (.ops [
  (.mk (some 58) none (.pure (.mv (.t 9)))), 
  (.mk (some 59) none (.pure (.bin .sub (.t 58) (.c (.i .i64 1))))), 
  (.mk (some 9) none (.pure (.mv (.t 59))))]) (.seq (.ops [
  (.mk (some 13) none (.pure (.mv (.c (.i .i64 0)))))]) (.block 4 (.loop (.seq (.seq (.ops [
  (.mk (some 60) none (.pure (.mv (.t 13)))), 
  (.mk (some 61) none (.pure (.mv (.t 0)))), 
  (.mk (some 62) none (.pure (.bin .lss (.t 60) (.t 61))))]) (.cond (.t 62) .skip (.exit 4))) (.seq (.block 5 (.seq (.ops [
  (.mk (some 65) none (.pure (.mv (.t 7)))), 
  (.mk (some 66) none (.pure (.mv (.t 13)))), 
  (.mk (some 67) none (.pure (.ixS 1 (.t 65) (.t 66)))), 
  (.mk (some 68) none (.ld true 1 (.t 67))), 
  (.mk (some 69) none (.pure (.mv (.t 11)))), 
  (.mk (some 70) none (.pure (.bin .eql (.t 68) (.t 69))))]) (.cond (.t 70) (.ops [
  (.mk (some 71) none (.pure (.mv (.t 7)))), 
  (.mk (some 72) none (.pure (.mv (.t 13)))), 
  (.mk (some 73) none (.pure (.mv (.t 12)))), 
  (.mk (some 74) none (.pure (.ixS 1 (.t 71) (.t 72)))), 
  (.mk none none (.st 1 (.t 74) (.t 73)))]) .skip))) (.ops [
  (.mk (some 63) none (.pure (.mv (.t 13)))), 
  (.mk (some 64) none (.pure (.bin .add (.t 63) (.c (.i .i64 1))))), 
  (.mk (some 13) none (.pure (.mv (.t 64))))])))))))))) (.ops [
  (.mk (some 30) none (.pure (.mv (.t 10)))), 
  (.mk (some 31) none (.pure (.bin .add (.t 30) (.c (.i .i64 1))))), 
  (.mk (some 10) none (.pure (.mv (.t 31))))])))))) (.seq (.ops [
  (.mk (some 75) none (.pure (.mv (.t 9)))), 
  (.mk (some 6) none (.pure (.mv (.t 75))))]) .ret)))))))
def fn21 : AFn := (AFn.mk 19 [(.t 2)] (.seq (.ops [
  (.mk (some 1) none (.bx 49 29 (.t 0))), 
  (.mk (some 2) none (.pure (.mv (.c (.i .i64 0)))))]) (.seq (.ops [
  (.mk (some 3) none (.pure (.mv (.c (.i .i64 0)))))]) (.seq (.seq (.ops [
  (.mk (some 6) none (.ld false 29 (.t 1))), 
  (.mk (some 7) none (.call 30 [(.t 6)])), 
  (.mk (some 8) none (.pure (.mv (.c (.i .i64 0)))))]) (.block 0 (.loop (.seq (.ops [
  (.mk (some 9) none (.pure (.bin .lss (.t 8) (.c (.i .i64 8)))))]) (.seq (.cond (.t 9) .skip (.exit 0)) (.seq (.block 1 (.seq (.ops [
  (.mk (some 10) none (.pure (.mv (.t 8)))), 
  (.mk (some 11) none (.pure (.ixV 8 1 true (.t 7) (.t 8)))), 
  (.mk (some 4) none (.pure (.mv (.t 10)))), 
  (.mk (some 5) none (.pure (.mv (.t 11))))]) (.seq (.ops [
  (.mk (some 12) none (.pure (.mv (.t 5)))), 
  (.mk (some 13) none (.pure (.mv (.t 4)))), 
  (.mk (some 14) none (.pure (.bin .neq (.t 12) (.t 13))))]) (.cond (.t 14) (.ops [
  (.mk (some 15) none (.pure (.mv (.t 3)))), 
  (.mk (some 16) none (.pure (.bin .add (.t 15) (.c (.i .i64 1))))), 
  (.mk (some 3) none (.pure (.mv (.t 16))))]) .skip)))) (.ops [
  (.mk (some 17) none (.pure (.bin .add (.t 8) (.c (.i .i64 1))))), 
  (.mk (some 8) none (.pure (.mv (.t 17))))]))))))) (.seq (.ops [
  (.mk (some 18) none (.pure (.mv (.t 3)))), 
  (.mk (some 2) none (.pure (.mv (.t 18))))]) .ret)))))
def fn22 : AFn := (AFn.mk 50 [(.c 2 false 120)] (.seq (.ops [
  (.mk (some 1) none (.bx 49 29 (.t 0))), 
  (.mk (some 2) none (.al 58 [(.i .i64 0), (.i .i64 0), (.i .i64 0), (.i .i64 0), (.i .i64 0), (.i .i64 0), (.i .i64 0), (.i .i64 0), (.i .i64 0), (.i .i64 0), (.i .i64 0), (.i .i64 0), (.i .i64 0), (.i .i64 0), (.i .i64 0), (.i .i64 0), (.i .i64 0), (.i .i64 0), (.i .i64 0), (.i .i64 0), (.i .i64 0), (.i .i64 0), (.i .i64 0), (.i .i64 0), (.i .i64 0), (.i .i64 0), (.i .i64 0), (.i .i64 0), (.i .i64 0), (.i .i64 0), (.i .i64 0), (.i .i64 0), (.i .i64 0), (.i .i64 0), (.i .i64 0), (.i .i64 0), (.i .i64 0), (.i .i64 0), (.i .i64 0), (.i .i64 0), (.i .i64 0), (.i .i64 0), (.i .i64 0), (.i .i64 0), (.i .i64 0), (.i .i64 0), (.i .i64 0), (.i .i64 0), (.i .i64 0), (.i .i64 0), (.i .i64 0), (.i .i64 0), (.i .i64 0), (.i .i64 0), (.i .i64 0), (.i .i64 0), (.i .i64 0), (.i .i64 0), (.i .i64 0), (.i .i64 0), (.i .i64 0), (.i .i64 0), (.i .i64 0), (.i .i64 0), (.i .i64 0), (.i .i64 0), (.i .i64 0), (.i .i64 0), (.i .i64 0), (.i .i64 0), (.i .i64 0), (.i .i64 0), (.i .i64 0), (.i .i64 0), (.i .i64 0), (.i .i64 0), (.i .i64 0), (.i .i64 0), (.i .i64 0), (.i .i64 0), (.i .i64 0), (.i .i64 0), (.i .i64 0), (.i .i64 0), (.i .i64 0), (.i .i64 0), (.i .i64 0), (.i .i64 0), (.i .i64 0), (.i .i64 0), (.i .i64 0), (.i .i64 0), (.i .i64 0), (.i .i64 0), (.i .i64 0), (.i .i64 0), (.i .i64 0), (.i .i64 0), (.i .i64 0), (.i .i64 0), (.i .i64 0), (.i .i64 0), (.i .i64 0), (.i .i64 0), (.i .i64 0), (.i .i64 0), (.i .i64 0), (.i .i64 0), (.i .i64 0), (.i .i64 0), (.i .i64 0), (.i .i64 0), (.i .i64 0), (.i .i64 0), (.i .i64 0), (.i .i64 0), (.i .i64 0), (.i .i64 0), (.i .i64 0), (.i .i64 0)]))]) (.seq (.seq (.ops [
  (.mk (some 4) none (.ld false 29 (.t 1))), 
  (.mk (some 5) none (.pure (.build [(.i .i64 0), (.i .i64 0), (.i .i64 0), (.i .i64 0), (.i .i64 0), (.i .i64 0), (.i .i64 0), (.i .i64 0), (.i .i64 0), (.i .i64 0), (.i .i64 0), (.i .i64 0), (.i .i64 0), (.i .i64 0), (.i .i64 0), (.i .i64 0), (.i .i64 0), (.i .i64 0), (.i .i64 0), (.i .i64 0), (.i .i64 0), (.i .i64 0), (.i .i64 0), (.i .i64 0), (.i .i64 0), (.i .i64 0), (.i .i64 0), (.i .i64 0), (.i .i64 0)] []))), 
  (.mk (some 6) none (.pure (.seq false [(0, false), (1, false), (2, false), (3, false), (4, false), (5, false), (6, false), (7, false), (8, false), (9, false), (10, false), (11, false), (12, false), (13, false), (14, false), (15, false), (16, false), (17, false), (18, false), (19, false), (20, false), (21, false), (22, false), (23, false), (24, false), (25, false), (26, false), (27, false), (28, false)] (.t 4) (.t 5))))]) (.cond (.t 6) (.seq (.ops [
  (.mk (some 7) none (.pure (.build [(.i .i64 0), (.i .i64 0), (.i .i64 0), (.i .i64 0), (.i .i64 0), (.i .i64 0), (.i .i64 0), (.i .i64 0)] [((0, 1), (.c (.i .i64 1)))]))), 
  (.mk (some 8) none (.pure (.build [(.i .i64 0), (.i .i64 0), (.i .i64 0), (.i .i64 0), (.i .i64 0), (.i .i64 0), (.i .i64 0), (.i .i64 0), (.i .i64 0), (.i .i64 0), (.i .i64 0), (.i .i64 0), (.i .i64 0), (.i .i64 0), (.i .i64 0), (.i .i64 0), (.i .i64 0), (.i .i64 0), (.i .i64 0), (.i .i64 0), (.i .i64 0), (.i .i64 0), (.i .i64 0), (.i .i64 0), (.i .i64 0), (.i .i64 0), (.i .i64 0), (.i .i64 0), (.i .i64 0), (.i .i64 0), (.i .i64 0), (.i .i64 0), (.i .i64 0), (.i .i64 0), (.i .i64 0), (.i .i64 0), (.i .i64 0), (.i .i64 0), (.i .i64 0), (.i .i64 0), (.i .i64 0), (.i .i64 0), (.i .i64 0), (.i .i64 0), (.i .i64 0), (.i .i64 0), (.i .i64 0), (.i .i64 0), (.i .i64 0), (.i .i64 0), (.i .i64 0), (.i .i64 0), (.i .i64 0), (.i .i64 0), (.i .i64 0), (.i .i64 0), (.i .i64 0), (.i .i64 0), (.i .i64 0), (.i .i64 0), (.i .i64 0), (.i .i64 0), (.i .i64 0), (.i .i64 0), (.i .i64 0), (.i .i64 0), (.i .i64 0), (.i .i64 0), (.i .i64 0), (.i .i64 0), (.i .i64 0), (.i .i64 0), (.i .i64 0), (.i .i64 0), (.i .i64 0), (.i .i64 0), (.i .i64 0), (.i .i64 0), (.i .i64 0), (.i .i64 0), (.i .i64 0), (.i .i64 0), (.i .i64 0), (.i .i64 0), (.i .i64 0), (.i .i64 0), (.i .i64 0), (.i .i64 0), (.i .i64 0), (.i .i64 0), (.i .i64 0), (.i .i64 0), (.i .i64 0), (.i .i64 0), (.i .i64 0), (.i .i64 0), (.i .i64 0), (.i .i64 0), (.i .i64 0), (.i .i64 0), (.i .i64 0), (.i .i64 0), (.i .i64 0), (.i .i64 0), (.i .i64 0), (.i .i64 0), (.i .i64 0), (.i .i64 0), (.i .i64 0), (.i .i64 0), (.i .i64 0), (.i .i64 0), (.i .i64 0), (.i .i64 0), (.i .i64 0), (.i .i64 0), (.i .i64 0), (.i .i64 0), (.i .i64 0), (.i .i64 0)] [((0, 8), (.t 7))]))), 
  (.mk none none (.st 120 (.t 2) (.t 8)))]) .ret) .skip)) (.seq (.ops [
  (.mk (some 9) none (.pure (.faddr 0 (.t 1)))), 
  (.mk (some 10) none (.ld true 1 (.t 9))), 
  (.mk (some 11) none (.pure (.bin .sub (.t 10) (.c (.i .i64 1))))), 
  (.mk (some 3) none (.pure (.mv (.t 11))))]) (.seq (.block 0 (.seq (.ops [
  (.mk (some 13) none (.ld false 29 (.t 1))), 
  (.mk (some 14) none (.pure (.mv (.t 3)))), 
  (.mk (some 15) none (.call 31 [(.t 13), (.t 14)])), 
  (.mk (some 12) none (.pure (.mv (.t 15))))]) (.cond (.t 12) (.seq (.ops [
  (.mk (some 16) none (.ld false 29 (.t 1))), 
  (.mk (some 17) none (.pure (.mv (.t 3)))), 
  (.mk (some 18) none (.call 29 [(.t 16), (.t 17)])), 
  (.mk (some 19) none (.call 22 [(.t 18)])), 
  (.mk (some 20) none (.call 32 [(.t 19)])), 
  (.mk none none (.st 120 (.t 2) (.t 20)))]) .ret) (.seq (.ops [
  (.mk (some 22) none (.ld false 29 (.t 1))), 
  (.mk (some 23) none (.pure (.mv (.t 3)))), 
  (.mk (some 24) none (.call 18 [(.t 22), (.t 23)])), 
  (.mk (some 21) none (.pure (.mv (.t 24))))]) (.cond (.t 21) (.seq (.ops [
  (.mk (some 25) none (.ld false 29 (.t 1))), 
  (.mk (some 26) none (.pure (.mv (.t 3)))), 
  (.mk (some 27) none (.call 33 [(.t 25), (.t 26)])), 
  (.mk (some 28) none (.call 22 [(.t 27)])), 
  (.mk (some 29) none (.call 34 [(.t 28)])), 
  (.mk none none (.st 120 (.t 2) (.t 29)))]) .ret) (.seq (.ops [
  (.mk (some 31) none (.pure (.faddr 0 (.t 1)))), 
  (.mk (some 32) none (.ld true 1 (.t 31))), 
  (.mk (some 33) none (.pure (.bin .leq (.t 32) (.c (.i .i64 10))))), 
  (.mk (some 30) none (.pure (.mv (.t 33))))]) (.cond (.t 30) (.seq (.flt [(
  (.mk (some 34) none (.ld false 29 (.t 1))), false), (
  (.mk (some 35) none (.pure (.mv (.t 3)))), false), (
  (.mk (some 36) none (.call 29 [(.t 34), (.t 35)])), false), (
  (.mk (some 37) none (.call 22 [(.t 36)])), false), (
  (.mk (some 38) none (.ld false 29 (.t 1))), true), (
  (.mk (some 39) none (.pure (.mv (.t 3)))), false), (
  (.mk (some 40) none (.call 33 [(.t 38), (.t 39)])), true), (
  (.mk (some 41) none (.call 22 [(.t 40)])), true), (
  (.mk (some 42) none (.call 35 [(.t 37), (.t 41)])), true), (
  (.mk none none (.st 120 (.t 2) (.t 42))), true)]) .ret) .skip))))))) (.seq (.flt [(
  (.mk (some 43) none (.ld false 29 (.t 1))), false), (
  (.mk (some 44) none (.pure (.mv (.t 3)))), false), (
  (.mk (some 45) none (.call 29 [(.t 43), (.t 44)])), false), (
  (.mk (some 46) none (.ld false 29 (.t 1))), true), (
  (.mk (some 47) none (.pure (.mv (.t 3)))), false), (
  (.mk (some 48) none (.call 33 [(.t 46), (.t 47)])), true), (
  (.mk (some 49) none (.call 36 [(.t 45), (.t 48)])), true), (
  (.mk none none (.st 120 (.t 2) (.t 49))), true)]) .ret))))))
def fn23 : AFn := (AFn.mk 48 [(.t 2)] (.seq (.ops [
  (.mk (some 1) none (.bx 58 120 (.t 0))), 
  (.mk (some 2) none (.pure (.mv (.c .nsl))))]) (.seq (.ops [
  (.mk (some 3) none (.pure (.mv (.c .nsl))))]) (.seq (.seq (.ops [
  (.mk (some 7) none (.ld false 120 (.t 1))), 
  (.mk (some 8) none (.pure (.mv (.c (.i .i64 0)))))]) (.block 0 (.loop (.seq (.ops [
  (.mk (some 9) none (.pure (.bin .lss (.t 8) (.c (.i .i64 15)))))]) (.seq (.cond (.t 9) .skip (.exit 0)) (.seq (.block 1 (.seq (.ops [
  (.mk (some 10) none (.pure (.ixV 15 8 false (.t 7) (.t 8)))), 
  (.mk (some 5) none (.al 56 [(.i .i64 0), (.i .i64 0), (.i .i64 0), (.i .i64 0), (.i .i64 0), (.i .i64 0), (.i .i64 0), (.i .i64 0)])), 
  (.mk none none (.st 8 (.t 5) (.t 10)))]) (.seq (.ops [
  (.mk (some 6) none (.pure (.mv (.c (.i .i64 8)))))]) (.seq (.block 2 (.loop (.seq (.seq (.ops [
  (.mk (some 11) none (.pure (.mv (.t 6)))), 
  (.mk (some 12) none (.pure (.bin .gtr (.t 11) (.c (.i .i64 0))))), 
  (.mk (some 13) none (.pure (.mv (.t 12)))), 
  (.mk (some 14) (some (13, true)) (.pure (.mv (.t 6)))), 
  (.mk (some 15) (some (13, true)) (.pure (.bin .sub (.t 14) (.c (.i .i64 1))))), 
  (.mk (some 16) (some (13, true)) (.pure (.ixA 8 1 (.t 5) (.t 15)))), 
  (.mk (some 17) (some (13, true)) (.ld true 1 (.t 16))), 
  (.mk (some 18) (some (13, true)) (.pure (.bin .eql (.t 17) (.c (.i .i64 0))))), 
  (.mk (some 19) none (.pure (.pick (.t 13) (.t 18) (.c (.b false)))))]) (.cond (.t 19) .skip (.exit 2))) (.block 3 (.ops [
  (.mk (some 20) none (.pure (.mv (.t 6)))), 
  (.mk (some 21) none (.pure (.bin .sub (.t 20) (.c (.i .i64 1))))), 
  (.mk (some 6) none (.pure (.mv (.t 21))))]))))) (.ops [
  (.mk (some 22) none (.pure (.mv (.t 3)))), 
  (.mk (some 23) none (.pure (.mv (.t 6)))), 
  (.mk (some 24) none (.pure (.slA 8 1 (.t 5) none (some (.t 23))))), 
  (.mk (some 25) none (.call 37 [(.t 24)])), 
  (.mk (some 26) none (.bsl 25 1 [.nsl] 1 [((0, 1), (.t 25))])), 
  (.mk (some 27) none (.app 25 1 24 [.nsl] (.t 22) (.t 26))), 
  (.mk (some 3) none (.pure (.mv (.t 27))))]))))) (.ops [
  (.mk (some 28) none (.pure (.bin .add (.t 8) (.c (.i .i64 1))))), 
  (.mk (some 8) none (.pure (.mv (.t 28))))]))))))) (.seq (.block 4 (.loop (.seq (.seq (.ops [
  (.mk (some 29) none (.pure (.mv (.t 3)))), 
  (.mk (some 30) none (.pure (.len false (.t 29)))), 
  (.mk (some 31) none (.pure (.bin .gtr (.t 30) (.c (.i .i64 0))))), 
  (.mk (some 32) none (.pure (.mv (.t 31)))), 
  (.mk (some 33) (some (32, true)) (.pure (.mv (.t 3)))), 
  (.mk (some 34) (some (32, true)) (.pure (.mv (.t 3)))), 
  (.mk (some 35) (some (32, true)) (.pure (.len false (.t 34)))), 
  (.mk (some 36) (some (32, true)) (.pure (.bin .sub (.t 35) (.c (.i .i64 1))))), 
  (.mk (some 37) (some (32, true)) (.pure (.ixS 1 (.t 33) (.t 36)))), 
  (.mk (some 38) (some (32, true)) (.ld true 1 (.t 37))), 
  (.mk (some 39) (some (32, true)) (.pure (.len false (.t 38)))), 
  (.mk (some 40) (some (32, true)) (.pure (.bin .eql (.t 39) (.c (.i .i64 0))))), 
  (.mk (some 41) none (.pure (.pick (.t 32) (.t 40) (.c (.b false)))))]) (.cond (.t 41) .skip (.exit 4))) (.block 5 (.ops [
  (.mk (some 42) none (.pure (.mv (.t 3)))), 
  (.mk (some 43) none (.pure (.mv (.t 3)))), 
  (.mk (some 44) none (.pure (.len false (.t 43)))), 
  (.mk (some 45) none (.pure (.bin .sub (.t 44) (.c (.i .i64 1))))), 
  (.mk (some 46) none (.pure (.slS 1 (.t 42) none (some (.t 45)) none))), 
  (.mk (some 3) none (.pure (.mv (.t 46))))]))))) (.seq (.ops [
  (.mk (some 47) none (.pure (.mv (.t 3)))), 
  (.mk (some 2) none (.pure (.mv (.t 47))))]) .ret))))))
def fn24 : AFn := (AFn.mk 15 [(.t 6)] (.seq (.ops [
  (.mk (some 6) none (.pure (.mv (.c (.b false)))))]) (.seq (.ops [
  (.mk (some 7) none (.pure (.mv (.t 0)))), 
  (.mk (some 8) none (.pure (.mv (.t 1)))), 
  (.mk (some 9) none (.pure (.bin .leq (.t 7) (.t 8)))), 
  (.mk (some 10) none (.pure (.mv (.t 9)))), 
  (.mk (some 11) (some (10, true)) (.pure (.mv (.t 1)))), 
  (.mk (some 12) (some (10, true)) (.pure (.mv (.t 2)))), 
  (.mk (some 13) (some (10, true)) (.pure (.bin .leq (.t 11) (.t 12)))), 
  (.mk (some 14) none (.pure (.pick (.t 10) (.t 13) (.c (.b false))))), 
  (.mk (some 6) none (.pure (.mv (.t 14))))]) .ret)))
def fn25 : AFn := (AFn.mk 14 [(.t 4)] (.seq (.ops [
  (.mk (some 4) none (.pure (.mv (.c (.i .i64 0)))))]) (.seq (.ops [
  (.mk (some 5) none (.pure (.mv (.c (.i .i64 1)))))]) (.seq (.seq (.ops [
  (.mk (some 6) none (.pure (.mv (.t 1)))), 
  (.mk (some 7) none (.pure (.mv (.c (.i .i64 0)))))]) (.block 0 (.loop (.seq (.ops [
  (.mk (some 8) none (.pure (.bin .lss (.t 7) (.t 6))))]) (.seq (.cond (.t 8) .skip (.exit 0)) (.seq (.block 1 (.ops [
  (.mk (some 9) none (.pure (.mv (.t 5)))), 
  (.mk (some 10) none (.pure (.mv (.t 0)))), 
  (.mk (some 11) none (.pure (.bin .mul (.t 9) (.t 10)))), 
  (.mk (some 5) none (.pure (.mv (.t 11))))])) (.ops [
  (.mk (some 12) none (.pure (.bin .add (.t 7) (.c (.i .i64 1))))), 
  (.mk (some 7) none (.pure (.mv (.t 12))))]))))))) (.seq (.ops [
  (.mk (some 13) none (.pure (.mv (.t 5)))), 
  (.mk (some 4) none (.pure (.mv (.t 13))))]) .ret)))))
def fn26 : AFn := (AFn.mk 22 [(.t 6)] (.seq (.ops [
  (.mk (some 3) none (.bx 58 120 (.t 0))), 
  (.mk (some 4) none (.bx 3 1 (.t 1))), 
  (.mk (some 5) none (.bx 3 1 (.t 2))), 
  (.mk (some 6) none (.pure (.mv (.c (.i .i64 0)))))]) (.seq (.ops [
  (.mk (some 7) none (.al 3 [(.i .i64 0)])), 
  (.mk none none (.st 1 (.t 7) (.c (.i .i64 0))))]) (.seq (.seq (.ops [
  (.mk (some 10) none (.pure (.slA 15 8 (.t 3) none none))), 
  (.mk (some 11) none (.call 38 [(.t 10)]))]) (.block 0 (.rng (.t 11) [12, 13] (.ops [
  (.mk (some 9) none (.al 56 [(.i .i64 0), (.i .i64 0), (.i .i64 0), (.i .i64 0), (.i .i64 0), (.i .i64 0), (.i .i64 0), (.i .i64 0)])), 
  (.mk none none (.st 8 (.t 9) (.t 13)))]) (.block 1 (.flt [(
  (.mk (some 14) none (.ld true 1 (.t 7))), true), (
  (.mk (some 15) none (.ld true 1 (.t 5))), true), (
  (.mk (some 16) none (.pure (.bin .mul (.t 14) (.t 15)))), false), (
  (.mk (some 17) none (.ld false 8 (.t 9))), false), (
  (.mk (some 18) none (.ld true 1 (.t 4))), false), (
  (.mk (some 19) none (.call 39 [(.t 17), (.t 18)])), false), (
  (.mk (some 20) none (.pure (.bin .add (.t 16) (.t 19)))), false), (
  (.mk none none (.st 1 (.t 7) (.t 20))), true)]))))) (.seq (.ops [
  (.mk (some 21) none (.ld true 1 (.t 7))), 
  (.mk (some 6) none (.pure (.mv (.t 21))))]) .ret)))))
def fn27 : AFn := (AFn.mk 22 [(.c 4 false 2)] (.seq (.ops [
  (.mk (some 4) none (.al 41 [(.i .i64 0), (.i .i64 0)]))]) (.seq (.ops [
  (.mk (some 7) none (.pure (.mv (.t 0)))), 
  (.mk (some 8) none (.pure (.mv (.t 1)))), 
  (.mk (some 5) none (.pure (.mv (.t 7)))), 
  (.mk (some 6) none (.pure (.mv (.t 8))))]) (.seq (.block 0 (.loop (.seq (.seq (.ops [
  (.mk (some 9) none (.pure (.mv (.t 6)))), 
  (.mk (some 10) none (.pure (.bin .neq (.t 9) (.c (.i .i64 0)))))]) (.cond (.t 10) .skip (.exit 0))) (.block 1 (.ops [
  (.mk (some 11) none (.pure (.mv (.t 6)))), 
  (.mk (some 12) none (.pure (.mv (.t 5)))), 
  (.mk (some 13) none (.pure (.mv (.t 6)))), 
  (.mk (some 14) none (.pure (.bin .rem (.t 12) (.t 13)))), 
  (.mk (some 5) none (.pure (.mv (.t 11)))), 
  (.mk (some 6) none (.pure (.mv (.t 14))))]))))) (.seq (.ops [
  (.mk (some 15) none (.pure (.mv (.t 0)))), 
  (.mk (some 16) none (.pure (.mv (.t 5)))), 
  (.mk (some 17) none (.pure (.bin .quo (.t 15) (.t 16)))), 
  (.mk (some 18) none (.pure (.mv (.t 1)))), 
  (.mk (some 19) none (.pure (.mv (.t 5)))), 
  (.mk (some 20) none (.pure (.bin .quo (.t 18) (.t 19)))), 
  (.mk (some 21) none (.pure (.build [(.i .i64 0), (.i .i64 0)] [((0, 1), (.t 17)), ((1, 1), (.t 20))]))), 
  (.mk none none (.st 2 (.t 4) (.t 21)))]) .ret)))))
def fn28 : AFn := (AFn.mk 57 [(.c 4 false 2)] (.seq (.ops [
  (.mk (some 2) none (.bx 49 29 (.t 0))), 
  (.mk (some 3) none (.bx 41 2 (.t 1))), 
  (.mk (some 4) none (.al 41 [(.i .i64 0), (.i .i64 0)]))]) (.seq (.any [(
  (.mk (some 10) none (.ld false 29 (.t 2))), false), (
  (.mk (some 11) none (.call 21 [(.t 10)])), false), (
  (.mk (some 12) none (.ld false 29 (.t 2))), false), (
  (.mk (some 13) none (.call 22 [(.t 12)])), false), (
  (.mk (some 6) none (.al 58 [(.i .i64 0), (.i .i64 0), (.i .i64 0), (.i .i64 0), (.i .i64 0), (.i .i64 0), (.i .i64 0), (.i .i64 0), (.i .i64 0), (.i .i64 0), (.i .i64 0), (.i .i64 0), (.i .i64 0), (.i .i64 0), (.i .i64 0), (.i .i64 0), (.i .i64 0), (.i .i64 0), (.i .i64 0), (.i .i64 0), (.i .i64 0), (.i .i64 0), (.i .i64 0), (.i .i64 0), (.i .i64 0), (.i .i64 0), (.i .i64 0), (.i .i64 0), (.i .i64 0), (.i .i64 0), (.i .i64 0), (.i .i64 0), (.i .i64 0), (.i .i64 0), (.i .i64 0), (.i .i64 0), (.i .i64 0), (.i .i64 0), (.i .i64 0), (.i .i64 0), (.i .i64 0), (.i .i64 0), (.i .i64 0), (.i .i64 0), (.i .i64 0), (.i .i64 0), (.i .i64 0), (.i .i64 0), (.i .i64 0), (.i .i64 0), (.i .i64 0), (.i .i64 0), (.i .i64 0), (.i .i64 0), (.i .i64 0), (.i .i64 0), (.i .i64 0), (.i .i64 0), (.i .i64 0), (.i .i64 0), (.i .i64 0), (.i .i64 0), (.i .i64 0), (.i .i64 0), (.i .i64 0), (.i .i64 0), (.i .i64 0), (.i .i64 0), (.i .i64 0), (.i .i64 0), (.i .i64 0), (.i .i64 0), (.i .i64 0), (.i .i64 0), (.i .i64 0), (.i .i64 0), (.i .i64 0), (.i .i64 0), (.i .i64 0), (.i .i64 0), (.i .i64 0), (.i .i64 0), (.i .i64 0), (.i .i64 0), (.i .i64 0), (.i .i64 0), (.i .i64 0), (.i .i64 0), (.i .i64 0), (.i .i64 0), (.i .i64 0), (.i .i64 0), (.i .i64 0), (.i .i64 0), (.i .i64 0), (.i .i64 0), (.i .i64 0), (.i .i64 0), (.i .i64 0), (.i .i64 0), (.i .i64 0), (.i .i64 0), (.i .i64 0), (.i .i64 0), (.i .i64 0), (.i .i64 0), (.i .i64 0), (.i .i64 0), (.i .i64 0), (.i .i64 0), (.i .i64 0), (.i .i64 0), (.i .i64 0), (.i .i64 0), (.i .i64 0), (.i .i64 0), (.i .i64 0), (.i .i64 0), (.i .i64 0), (.i .i64 0)])), false), (
  (.mk (some 5) none (.pure (.mv (.t 11)))), false), (
  (.mk none none (.st 120 (.t 6) (.t 13))), false)]) (.seq (.ops [
  (.mk (some 14) none (.pure (.faddr 0 (.t 2)))), 
  (.mk (some 15) none (.ld true 1 (.t 14))), 
  (.mk (some 16) none (.pure (.mv (.t 5)))), 
  (.mk (some 17) none (.pure (.bin .sub (.t 15) (.t 16)))), 
  (.mk (some 7) none (.pure (.mv (.t 17))))]) (.seq (.ops [
  (.mk (some 8) none (.pure (.mv (.c (.i .i64 0)))))]) (.seq (.seq (.ops [
  (.mk (some 18) none (.pure (.mv (.t 7)))), 
  (.mk (some 19) none (.pure (.bin .add (.t 18) (.c (.i .i64 1))))), 
  (.mk (some 20) none (.pure (.mv (.c (.i .i64 0)))))]) (.block 0 (.loop (.seq (.ops [
  (.mk (some 21) none (.pure (.bin .lss (.t 20) (.t 19))))]) (.seq (.cond (.t 21) .skip (.exit 0)) (.seq (.block 1 (.seq (.ops [
  (.mk (some 22) none (.pure (.mv (.t 20)))), 
  (.mk (some 9) none (.pure (.mv (.t 22))))]) (.flt [(
  (.mk (some 23) none (.pure (.mv (.t 8)))), false), (
  (.mk (some 24) none (.pure (.mv (.t 9)))), false), (
  (.mk (some 25) none (.pure (.ixA 15 8 (.t 6) (.t 24)))), false), (
  (.mk (some 26) none (.ld false 8 (.t 25))), false), (
  (.mk (some 27) none (.call 39 [(.t 26), (.c (.i .i64 1))])), false), (
  (.mk (some 28) none (.pure (.faddr 0 (.t 3)))), false), (
  (.mk (some 29) none (.ld true 1 (.t 28))), true), (
  (.mk (some 30) none (.pure (.mv (.t 5)))), false), (
  (.mk (some 31) none (.call 25 [(.t 29), (.t 30)])), false), (
  (.mk (some 32) none (.pure (.bin .mul (.t 27) (.t 31)))), false), (
  (.mk (some 33) none (.pure (.faddr 1 (.t 3)))), false), (
  (.mk (some 34) none (.ld true 1 (.t 33))), true), (
  (.mk (some 35) none (.pure (.faddr 0 (.t 3)))), false), (
  (.mk (some 36) none (.ld true 1 (.t 35))), true), (
  (.mk (some 37) none (.pure (.bin .sub (.t 34) (.t 36)))), false), (
  (.mk (some 38) none (.pure (.mv (.t 7)))), false), (
  (.mk (some 39) none (.pure (.mv (.t 9)))), false), (
  (.mk (some 40) none (.pure (.bin .sub (.t 38) (.t 39)))), false), (
  (.mk (some 41) none (.call 25 [(.t 37), (.t 40)])), false), (
  (.mk (some 42) none (.pure (.bin .mul (.t 32) (.t 41)))), false), (
  (.mk (some 43) none (.pure (.faddr 1 (.t 3)))), false), (
  (.mk (some 44) none (.ld true 1 (.t 43))), true), (
  (.mk (some 45) none (.pure (.mv (.t 9)))), false), (
  (.mk (some 46) none (.call 25 [(.t 44), (.t 45)])), true), (
  (.mk (some 47) none (.pure (.bin .mul (.t 42) (.t 46)))), false), (
  (.mk (some 48) none (.pure (.bin .add (.t 23) (.t 47)))), false), (
  (.mk (some 8) none (.pure (.mv (.t 48)))), false)]))) (.ops [
  (.mk (some 49) none (.pure (.bin .add (.t 20) (.c (.i .i64 1))))), 
  (.mk (some 20) none (.pure (.mv (.t 49))))]))))))) (.seq (.ops [
  (.mk (some 50) none (.pure (.mv (.t 8)))), 
  (.mk (some 51) none (.pure (.faddr 1 (.t 3)))), 
  (.mk (some 52) none (.ld true 1 (.t 51))), 
  (.mk (some 53) none (.pure (.faddr 0 (.t 2)))), 
  (.mk (some 54) none (.ld true 1 (.t 53))), 
  (.mk (some 55) none (.call 25 [(.t 52), (.t 54)])), 
  (.mk (some 56) none (.call 27 [(.t 50), (.t 55)])), 
  (.mk none none (.st 2 (.t 4) (.t 56)))]) .ret)))))))
def fn29 : AFn := (AFn.mk 23 [(.c 4 false 29)] (.seq (.ops [
  (.mk (some 2) none (.bx 49 29 (.t 0))), 
  (.mk (some 4) none (.al 49 [(.i .i64 0), (.i .i64 0), (.i .i64 0), (.i .i64 0), (.i .i64 0), (.i .i64 0), (.i .i64 0), (.i .i64 0), (.i .i64 0), (.i .i64 0), (.i .i64 0), (.i .i64 0), (.i .i64 0), (.i .i64 0), (.i .i64 0), (.i .i64 0), (.i .i64 0), (.i .i64 0), (.i .i64 0), (.i .i64 0), (.i .i64 0), (.i .i64 0), (.i .i64 0), (.i .i64 0), (.i .i64 0), (.i .i64 0), (.i .i64 0), (.i .i64 0), (.i .i64 0)]))]) (.seq (.ops [
  (.mk (some 5) none (.pure (.faddr 1 (.t 2)))), 
  (.mk (some 6) none (.pure (.mv (.t 1)))), 
  (.mk (some 7) none (.pure (.slA 14 2 (.t 5) (some (.t 6)) none))), 
  (.mk (some 8) none (.pure (.faddr 1 (.t 2)))), 
  (.mk (some 9) none (.pure (.mv (.t 1)))), 
  (.mk (some 10) none (.pure (.bin .add (.t 9) (.c (.i .i64 1))))), 
  (.mk (some 11) none (.pure (.slA 14 2 (.t 8) (some (.t 10)) none))), 
  (.mk (some 12) none (.cpy 2 (.t 7) (.t 11)))]) (.seq (.ops [
  (.mk (some 13) none (.pure (.faddr 0 (.t 2)))), 
  (.mk (some 14) none (.ld true 1 (.t 13))), 
  (.mk (some 15) none (.pure (.bin .sub (.t 14) (.c (.i .i64 1))))), 
  (.mk (some 16) none (.pure (.faddr 0 (.t 2)))), 
  (.mk none none (.st 1 (.t 16) (.t 15)))]) (.seq (.ops [
  (.mk (some 17) none (.pure (.faddr 0 (.t 2)))), 
  (.mk (some 18) none (.ld true 1 (.t 17))), 
  (.mk (some 19) none (.pure (.build [(.i .i64 0), (.i .i64 0)] []))), 
  (.mk (some 20) none (.pure (.faddr 1 (.t 2)))), 
  (.mk (some 21) none (.pure (.ixA 14 2 (.t 20) (.t 18)))), 
  (.mk none none (.st 2 (.t 21) (.t 19)))]) (.seq (.ops [
  (.mk (some 22) none (.ld false 29 (.t 2))), 
  (.mk none none (.st 29 (.t 4) (.t 22)))]) .ret))))))
def fn30 : AFn := (AFn.mk 49 [(.c 2 false 8)] (.seq (.ops [
  (.mk (some 1) none (.bx 49 29 (.t 0))), 
  (.mk (some 2) none (.al 56 [(.i .i64 0), (.i .i64 0), (.i .i64 0), (.i .i64 0), (.i .i64 0), (.i .i64 0), (.i .i64 0), (.i .i64 0)]))]) (.seq (.ops [
  (.mk (some 3) none (.al 56 [(.i .i64 0), (.i .i64 0), (.i .i64 0), (.i .i64 0), (.i .i64 0), (.i .i64 0), (.i .i64 0), (.i .i64 0)]))]) (.seq (.seq (.ops [
  (.mk (some 11) none (.pure (.mv (.c (.i .i64 0)))))]) (.block 0 (.loop (.seq (.ops [
  (.mk (some 12) none (.pure (.bin .lss (.t 11) (.c (.i .i64 8)))))]) (.seq (.cond (.t 12) .skip (.exit 0)) (.seq (.block 1 (.seq (.ops [
  (.mk (some 13) none (.pure (.mv (.t 11)))), 
  (.mk (some 4) none (.pure (.mv (.t 13))))]) (.ops [
  (.mk (some 14) none (.pure (.mv (.t 4)))), 
  (.mk (some 15) none (.pure (.mv (.t 4)))), 
  (.mk (some 16) none (.pure (.ixA 8 1 (.t 3) (.t 14)))), 
  (.mk none none (.st 1 (.t 16) (.t 15)))]))) (.ops [
  (.mk (some 17) none (.pure (.bin .add (.t 11) (.c (.i .i64 1))))), 
  (.mk (some 11) none (.pure (.mv (.t 17))))]))))))) (.seq (.seq (.ops [
  (.mk (some 18) none (.pure (.faddr 1 (.t 1)))), 
  (.mk (some 19) none (.pure (.faddr 0 (.t 1)))), 
  (.mk (some 20) none (.ld true 1 (.t 19))), 
  (.mk (some 21) none (.pure (.slA 14 2 (.t 18) none (some (.t 20))))), 
  (.mk (some 22) none (.pure (.len false (.t 21)))), 
  (.mk (some 23) none (.pure (.mv (.c (.i .i64 0)))))]) (.block 2 (.loop (.seq (.ops [
  (.mk (some 24) none (.pure (.bin .lss (.t 23) (.t 22))))]) (.seq (.cond (.t 24) .skip (.exit 2)) (.seq (.block 3 (.seq (.ops [
  (.mk (some 25) none (.pure (.ixS 2 (.t 21) (.t 23)))), 
  (.mk (some 26) none (.ld false 2 (.t 25))), 
  (.mk (some 6) none (.al 45 [(.i .i64 0), (.i .i64 0)])), 
  (.mk none none (.st 2 (.t 6) (.t 26)))]) (.seq (.any [(
  (.mk (some 27) none (.pure (.faddr 0 (.t 6)))), false), (
  (.mk (some 28) none (.ld true 1 (.t 27))), false), (
  (.mk (some 29) none (.pure (.ixA 8 1 (.t 3) (.t 28)))), false), (
  (.mk (some 30) none (.ld true 1 (.t 29))), false), (
  (.mk (some 31) none (.pure (.faddr 1 (.t 6)))), false), (
  (.mk (some 32) none (.ld true 1 (.t 31))), false), (
  (.mk (some 33) none (.pure (.ixA 8 1 (.t 3) (.t 32)))), false), (
  (.mk (some 34) none (.ld true 1 (.t 33))), false), (
  (.mk (some 7) none (.pure (.mv (.t 30)))), false), (
  (.mk (some 8) none (.pure (.mv (.t 34)))), false)]) (.seq (.ops [
  (.mk (some 35) none (.ld false 8 (.t 3))), 
  (.mk (some 36) none (.pure (.mv (.c (.i .i64 0)))))]) (.block 4 (.loop (.seq (.ops [
  (.mk (some 37) none (.pure (.bin .lss (.t 36) (.c (.i .i64 8)))))]) (.seq (.cond (.t 37) .skip (.exit 4)) (.seq (.block 5 (.seq (.ops [
  (.mk (some 38) none (.pure (.mv (.t 36)))), 
  (.mk (some 39) none (.pure (.ixV 8 1 true (.t 35) (.t 36)))), 
  (.mk (some 9) none (.pure (.mv (.t 38)))), 
  (.mk (some 10) none (.pure (.mv (.t 39))))]) (.seq (.ops [
  (.mk (some 40) none (.pure (.mv (.t 10)))), 
  (.mk (some 41) none (.pure (.mv (.t 8)))), 
  (.mk (some 42) none (.pure (.bin .eql (.t 40) (.t 41))))]) (.cond (.t 42) (.ops [
  (.mk (some 43) none (.pure (.mv (.t 9)))), 
  (.mk (some 44) none (.pure (.mv (.t 7)))), 
  (.mk (some 45) none (.pure (.ixA 8 1 (.t 3) (.t 43)))), 
  (.mk none none (.st 1 (.t 45) (.t 44)))]) .skip)))) (.ops [
  (.mk (some 46) none (.pure (.bin .add (.t 36) (.c (.i .i64 1))))), 
  (.mk (some 36) none (.pure (.mv (.t 46))))])))))))))) (.ops [
  (.mk (some 47) none (.pure (.bin .add (.t 23) (.c (.i .i64 1))))), 
  (.mk (some 23) none (.pure (.mv (.t 47))))]))))))) (.seq (.ops [
  (.mk (some 48) none (.ld false 8 (.t 3))), 
  (.mk none none (.st 8 (.t 2) (.t 48)))]) .ret))))))
def fn31 : AFn := (AFn.mk 16 [(.t 4)] (.seq (.ops [
  (.mk (some 2) none (.bx 49 29 (.t 0))), 
  (.mk (some 4) none (.pure (.mv (.c (.b false)))))]) (.seq (.any [(
  (.mk (some 5) none (.pure (.mv (.t 1)))), false), (
  (.mk (some 6) none (.pure (.faddr 1 (.t 2)))), false), (
  (.mk (some 7) none (.pure (.ixA 14 2 (.t 6) (.t 5)))), false), (
  (.mk (some 8) none (.pure (.faddr 0 (.t 7)))), false), (
  (.mk (some 9) none (.ld true 1 (.t 8))), false), (
  (.mk (some 10) none (.pure (.mv (.t 1)))), false), (
  (.mk (some 11) none (.pure (.faddr 1 (.t 2)))), false), (
  (.mk (some 12) none (.pure (.ixA 14 2 (.t 11) (.t 10)))), false), (
  (.mk (some 13) none (.pure (.faddr 1 (.t 12)))), false), (
  (.mk (some 14) none (.ld true 1 (.t 13))), false), (
  (.mk (some 15) none (.pure (.bin .eql (.t 9) (.t 14)))), false), (
  (.mk (some 4) none (.pure (.mv (.t 15)))), false)]) .ret)))
def fn32 : AFn := (AFn.mk 8 [(.c 2 false 120)] (.seq (.ops [
  (.mk (some 1) none (.bx 58 120 (.t 0))), 
  (.mk (some 2) none (.al 58 [(.i .i64 0), (.i .i64 0), (.i .i64 0), (.i .i64 0), (.i .i64 0), (.i .i64 0), (.i .i64 0), (.i .i64 0), (.i .i64 0), (.i .i64 0), (.i .i64 0), (.i .i64 0), (.i .i64 0), (.i .i64 0), (.i .i64 0), (.i .i64 0), (.i .i64 0), (.i .i64 0), (.i .i64 0), (.i .i64 0), (.i .i64 0), (.i .i64 0), (.i .i64 0), (.i .i64 0), (.i .i64 0), (.i .i64 0), (.i .i64 0), (.i .i64 0), (.i .i64 0), (.i .i64 0), (.i .i64 0), (.i .i64 0), (.i .i64 0), (.i .i64 0), (.i .i64 0), (.i .i64 0), (.i .i64 0), (.i .i64 0), (.i .i64 0), (.i .i64 0), (.i .i64 0), (.i .i64 0), (.i .i64 0), (.i .i64 0), (.i .i64 0), (.i .i64 0), (.i .i64 0), (.i .i64 0), (.i .i64 0), (.i .i64 0), (.i .i64 0), (.i .i64 0), (.i .i64 0), (.i .i64 0), (.i .i64 0), (.i .i64 0), (.i .i64 0), (.i .i64 0), (.i .i64 0), (.i .i64 0), (.i .i64 0), (.i .i64 0), (.i .i64 0), (.i .i64 0), (.i .i64 0), (.i .i64 0), (.i .i64 0), (.i .i64 0), (.i .i64 0), (.i .i64 0), (.i .i64 0), (.i .i64 0), (.i .i64 0), (.i .i64 0), (.i .i64 0), (.i .i64 0), (.i .i64 0), (.i .i64 0), (.i .i64 0), (.i .i64 0), (.i .i64 0), (.i .i64 0), (.i .i64 0), (.i .i64 0), (.i .i64 0), (.i .i64 0), (.i .i64 0), (.i .i64 0), (.i .i64 0), (.i .i64 0), (.i .i64 0), (.i .i64 0), (.i .i64 0), (.i .i64 0), (.i .i64 0), (.i .i64 0), (.i .i64 0), (.i .i64 0), (.i .i64 0), (.i .i64 0), (.i .i64 0), (.i .i64 0), (.i .i64 0), (.i .i64 0), (.i .i64 0), (.i .i64 0), (.i .i64 0), (.i .i64 0), (.i .i64 0), (.i .i64 0), (.i .i64 0), (.i .i64 0), (.i .i64 0), (.i .i64 0), (.i .i64 0), (.i .i64 0), (.i .i64 0), (.i .i64 0), (.i .i64 0), (.i .i64 0)]))]) (.seq (.ops [
  (.mk (some 3) none (.al 58 [(.i .i64 0), (.i .i64 0), (.i .i64 0), (.i .i64 0), (.i .i64 0), (.i .i64 0), (.i .i64 0), (.i .i64 0), (.i .i64 0), (.i .i64 0), (.i .i64 0), (.i .i64 0), (.i .i64 0), (.i .i64 0), (.i .i64 0), (.i .i64 0), (.i .i64 0), (.i .i64 0), (.i .i64 0), (.i .i64 0), (.i .i64 0), (.i .i64 0), (.i .i64 0), (.i .i64 0), (.i .i64 0), (.i .i64 0), (.i .i64 0), (.i .i64 0), (.i .i64 0), (.i .i64 0), (.i .i64 0), (.i .i64 0), (.i .i64 0), (.i .i64 0), (.i .i64 0), (.i .i64 0), (.i .i64 0), (.i .i64 0), (.i .i64 0), (.i .i64 0), (.i .i64 0), (.i .i64 0), (.i .i64 0), (.i .i64 0), (.i .i64 0), (.i .i64 0), (.i .i64 0), (.i .i64 0), (.i .i64 0), (.i .i64 0), (.i .i64 0), (.i .i64 0), (.i .i64 0), (.i .i64 0), (.i .i64 0), (.i .i64 0), (.i .i64 0), (.i .i64 0), (.i .i64 0), (.i .i64 0), (.i .i64 0), (.i .i64 0), (.i .i64 0), (.i .i64 0), (.i .i64 0), (.i .i64 0), (.i .i64 0), (.i .i64 0), (.i .i64 0), (.i .i64 0), (.i .i64 0), (.i .i64 0), (.i .i64 0), (.i .i64 0), (.i .i64 0), (.i .i64 0), (.i .i64 0), (.i .i64 0), (.i .i64 0), (.i .i64 0), (.i .i64 0), (.i .i64 0), (.i .i64 0), (.i .i64 0), (.i .i64 0), (.i .i64 0), (.i .i64 0), (.i .i64 0), (.i .i64 0), (.i .i64 0), (.i .i64 0), (.i .i64 0), (.i .i64 0), (.i .i64 0), (.i .i64 0), (.i .i64 0), (.i .i64 0), (.i .i64 0), (.i .i64 0), (.i .i64 0), (.i .i64 0), (.i .i64 0), (.i .i64 0), (.i .i64 0), (.i .i64 0), (.i .i64 0), (.i .i64 0), (.i .i64 0), (.i .i64 0), (.i .i64 0), (.i .i64 0), (.i .i64 0), (.i .i64 0), (.i .i64 0), (.i .i64 0), (.i .i64 0), (.i .i64 0), (.i .i64 0), (.i .i64 0), (.i .i64 0)]))]) (.seq (.ops [
  (.mk (some 4) none (.pure (.slA 15 8 (.t 3) (some (.c (.i .i64 1))) none))), 
  (.mk (some 5) none (.pure (.slA 15 8 (.t 1) none none))), 
  (.mk (some 6) none (.cpy 8 (.t 4) (.t 5)))]) (.seq (.ops [
  (.mk (some 7) none (.ld false 120 (.t 3))), 
  (.mk none none (.st 120 (.t 2) (.t 7)))]) .ret)))))
def fn33 : AFn := (AFn.mk 52 [(.c 4 false 29)] (.seq (.ops [
  (.mk (some 2) none (.bx 49 29 (.t 0))), 
  (.mk (some 4) none (.al 49 [(.i .i64 0), (.i .i64 0), (.i .i64 0), (.i .i64 0), (.i .i64 0), (.i .i64 0), (.i .i64 0), (.i .i64 0), (.i .i64 0), (.i .i64 0), (.i .i64 0), (.i .i64 0), (.i .i64 0), (.i .i64 0), (.i .i64 0), (.i .i64 0), (.i .i64 0), (.i .i64 0), (.i .i64 0), (.i .i64 0), (.i .i64 0), (.i .i64 0), (.i .i64 0), (.i .i64 0), (.i .i64 0), (.i .i64 0), (.i .i64 0), (.i .i64 0), (.i .i64 0)]))]) (.seq (.any [(
  (.mk (some 9) none (.pure (.mv (.t 1)))), false), (
  (.mk (some 10) none (.pure (.faddr 1 (.t 2)))), false), (
  (.mk (some 11) none (.pure (.ixA 14 2 (.t 10) (.t 9)))), false), (
  (.mk (some 12) none (.pure (.faddr 0 (.t 11)))), false), (
  (.mk (some 13) none (.ld true 1 (.t 12))), false), (
  (.mk (some 14) none (.pure (.mv (.t 1)))), false), (
  (.mk (some 15) none (.pure (.faddr 1 (.t 2)))), false), (
  (.mk (some 16) none (.pure (.ixA 14 2 (.t 15) (.t 14)))), false), (
  (.mk (some 17) none (.pure (.faddr 1 (.t 16)))), false), (
  (.mk (some 18) none (.ld true 1 (.t 17))), false), (
  (.mk (some 5) none (.pure (.mv (.t 13)))), false), (
  (.mk (some 6) none (.pure (.mv (.t 18)))), false)]) (.seq (.ops [
  (.mk (some 19) none (.ld false 29 (.t 2))), 
  (.mk (some 20) none (.pure (.mv (.t 1)))), 
  (.mk (some 21) none (.call 29 [(.t 19), (.t 20)])), 
  (.mk none none (.st 29 (.t 2) (.t 21)))]) (.seq (.seq (.ops [
  (.mk (some 22) none (.pure (.faddr 1 (.t 2)))), 
  (.mk (some 23) none (.pure (.faddr 0 (.t 2)))), 
  (.mk (some 24) none (.ld true 1 (.t 23))), 
  (.mk (some 25) none (.pure (.slA 14 2 (.t 22) none (some (.t 24))))), 
  (.mk (some 26) none (.pure (.len false (.t 25)))), 
  (.mk (some 27) none (.pure (.mv (.c (.i .i64 0)))))]) (.block 0 (.loop (.seq (.ops [
  (.mk (some 28) none (.pure (.bin .lss (.t 27) (.t 26))))]) (.seq (.cond (.t 28) .skip (.exit 0)) (.seq (.block 1 (.seq (.ops [
  (.mk (some 29) none (.pure (.mv (.t 27)))), 
  (.mk (some 30) none (.pure (.ixS 2 (.t 25) (.t 27)))), 
  (.mk (some 31) none (.ld false 2 (.t 30))), 
  (.mk (some 8) none (.al 45 [(.i .i64 0), (.i .i64 0)])), 
  (.mk (some 7) none (.pure (.mv (.t 29)))), 
  (.mk none none (.st 2 (.t 8) (.t 31)))]) (.seq (.seq (.ops [
  (.mk (some 32) none (.pure (.faddr 0 (.t 8)))), 
  (.mk (some 33) none (.ld true 1 (.t 32))), 
  (.mk (some 34) none (.pure (.mv (.t 6)))), 
  (.mk (some 35) none (.pure (.bin .eql (.t 33) (.t 34))))]) (.cond (.t 35) (.ops [
  (.mk (some 36) none (.pure (.mv (.t 7)))), 
  (.mk (some 37) none (.pure (.mv (.t 5)))), 
  (.mk (some 38) none (.pure (.faddr 1 (.t 2)))), 
  (.mk (some 39) none (.pure (.ixA 14 2 (.t 38) (.t 36)))), 
  (.mk (some 40) none (.pure (.faddr 0 (.t 39)))), 
  (.mk none none (.st 1 (.t 40) (.t 37)))]) .skip)) (.seq (.ops [
  (.mk (some 41) none (.pure (.faddr 1 (.t 8)))), 
  (.mk (some 42) none (.ld true 1 (.t 41))), 
  (.mk (some 43) none (.pure (.mv (.t 6)))), 
  (.mk (some 44) none (.pure (.bin .eql (.t 42) (.t 43))))]) (.cond (.t 44) (.ops [
  (.mk (some 45) none (.pure (.mv (.t 7)))), 
  (.mk (some 46) none (.pure (.mv (.t 5)))), 
  (.mk (some 47) none (.pure (.faddr 1 (.t 2)))), 
  (.mk (some 48) none (.pure (.ixA 14 2 (.t 47) (.t 45)))), 
  (.mk (some 49) none (.pure (.faddr 1 (.t 48)))), 
  (.mk none none (.st 1 (.t 49) (.t 46)))]) .skip))))) (.ops [
  (.mk (some 50) none (.pure (.bin .add (.t 27) (.c (.i .i64 1))))), 
  (.mk (some 27) none (.pure (.mv (.t 50))))]))))))) (.seq (.ops [
  (.mk (some 51) none (.ld false 29 (.t 2))), 
  (.mk none none (.st 29 (.t 4) (.t 51)))]) .ret))))))
def fn34 : AFn := (AFn.mk 17 [(.c 2 false 120)] (.seq (.ops [
  (.mk (some 1) none (.bx 58 120 (.t 0))), 
  (.mk (some 2) none (.al 58 [(.i .i64 0), (.i .i64 0), (.i .i64 0), (.i .i64 0), (.i .i64 0), (.i .i64 0), (.i .i64 0), (.i .i64 0), (.i .i64 0), (.i .i64 0), (.i .i64 0), (.i .i64 0), (.i .i64 0), (.i .i64 0), (.i .i64 0), (.i .i64 0), (.i .i64 0), (.i .i64 0), (.i .i64 0), (.i .i64 0), (.i .i64 0), (.i .i64 0), (.i .i64 0), (.i .i64 0), (.i .i64 0), (.i .i64 0), (.i .i64 0), (.i .i64 0), (.i .i64 0), (.i .i64 0), (.i .i64 0), (.i .i64 0), (.i .i64 0), (.i .i64 0), (.i .i64 0), (.i .i64 0), (.i .i64 0), (.i .i64 0), (.i .i64 0), (.i .i64 0), (.i .i64 0), (.i .i64 0), (.i .i64 0), (.i .i64 0), (.i .i64 0), (.i .i64 0), (.i .i64 0), (.i .i64 0), (.i .i64 0), (.i .i64 0), (.i .i64 0), (.i .i64 0), (.i .i64 0), (.i .i64 0), (.i .i64 0), (.i .i64 0), (.i .i64 0), (.i .i64 0), (.i .i64 0), (.i .i64 0), (.i .i64 0), (.i .i64 0), (.i .i64 0), (.i .i64 0), (.i .i64 0), (.i .i64 0), (.i .i64 0), (.i .i64 0), (.i .i64 0), (.i .i64 0), (.i .i64 0), (.i .i64 0), (.i .i64 0), (.i .i64 0), (.i .i64 0), (.i .i64 0), (.i .i64 0), (.i .i64 0), (.i .i64 0), (.i .i64 0), (.i .i64 0), (.i .i64 0), (.i .i64 0), (.i .i64 0), (.i .i64 0), (.i .i64 0), (.i .i64 0), (.i .i64 0), (.i .i64 0), (.i .i64 0), (.i .i64 0), (.i .i64 0), (.i .i64 0), (.i .i64 0), (.i .i64 0), (.i .i64 0), (.i .i64 0), (.i .i64 0), (.i .i64 0), (.i .i64 0), (.i .i64 0), (.i .i64 0), (.i .i64 0), (.i .i64 0), (.i .i64 0), (.i .i64 0), (.i .i64 0), (.i .i64 0), (.i .i64 0), (.i .i64 0), (.i .i64 0), (.i .i64 0), (.i .i64 0), (.i .i64 0), (.i .i64 0), (.i .i64 0), (.i .i64 0), (.i .i64 0), (.i .i64 0), (.i .i64 0)]))]) (.seq (.ops [
  (.mk (some 3) none (.al 58 [(.i .i64 0), (.i .i64 0), (.i .i64 0), (.i .i64 0), (.i .i64 0), (.i .i64 0), (.i .i64 0), (.i .i64 0), (.i .i64 0), (.i .i64 0), (.i .i64 0), (.i .i64 0), (.i .i64 0), (.i .i64 0), (.i .i64 0), (.i .i64 0), (.i .i64 0), (.i .i64 0), (.i .i64 0), (.i .i64 0), (.i .i64 0), (.i .i64 0), (.i .i64 0), (.i .i64 0), (.i .i64 0), (.i .i64 0), (.i .i64 0), (.i .i64 0), (.i .i64 0), (.i .i64 0), (.i .i64 0), (.i .i64 0), (.i .i64 0), (.i .i64 0), (.i .i64 0), (.i .i64 0), (.i .i64 0), (.i .i64 0), (.i .i64 0), (.i .i64 0), (.i .i64 0), (.i .i64 0), (.i .i64 0), (.i .i64 0), (.i .i64 0), (.i .i64 0), (.i .i64 0), (.i .i64 0), (.i .i64 0), (.i .i64 0), (.i .i64 0), (.i .i64 0), (.i .i64 0), (.i .i64 0), (.i .i64 0), (.i .i64 0), (.i .i64 0), (.i .i64 0), (.i .i64 0), (.i .i64 0), (.i .i64 0), (.i .i64 0), (.i .i64 0), (.i .i64 0), (.i .i64 0), (.i .i64 0), (.i .i64 0), (.i .i64 0), (.i .i64 0), (.i .i64 0), (.i .i64 0), (.i .i64 0), (.i .i64 0), (.i .i64 0), (.i .i64 0), (.i .i64 0), (.i .i64 0), (.i .i64 0), (.i .i64 0), (.i .i64 0), (.i .i64 0), (.i .i64 0), (.i .i64 0), (.i .i64 0), (.i .i64 0), (.i .i64 0), (.i .i64 0), (.i .i64 0), (.i .i64 0), (.i .i64 0), (.i .i64 0), (.i .i64 0), (.i .i64 0), (.i .i64 0), (.i .i64 0), (.i .i64 0), (.i .i64 0), (.i .i64 0), (.i .i64 0), (.i .i64 0), (.i .i64 0), (.i .i64 0), (.i .i64 0), (.i .i64 0), (.i .i64 0), (.i .i64 0), (.i .i64 0), (.i .i64 0), (.i .i64 0), (.i .i64 0), (.i .i64 0), (.i .i64 0), (.i .i64 0), (.i .i64 0), (.i .i64 0), (.i .i64 0), (.i .i64 0), (.i .i64 0), (.i .i64 0), (.i .i64 0)]))]) (.seq (.seq (.ops [
  (.mk (some 5) none (.pure (.mv (.c (.i .i64 0)))))]) (.block 0 (.loop (.seq (.ops [
  (.mk (some 6) none (.pure (.bin .lss (.t 5) (.c (.i .i64 15)))))]) (.seq (.cond (.t 6) .skip (.exit 0)) (.seq (.block 1 (.seq (.ops [
  (.mk (some 7) none (.pure (.mv (.t 5)))), 
  (.mk (some 4) none (.pure (.mv (.t 7))))]) (.ops [
  (.mk (some 8) none (.pure (.mv (.t 4)))), 
  (.mk (some 9) none (.pure (.ixA 15 8 (.t 3) (.t 8)))), 
  (.mk (some 10) none (.pure (.slA 8 1 (.t 9) (some (.c (.i .i64 1))) none))), 
  (.mk (some 11) none (.pure (.mv (.t 4)))), 
  (.mk (some 12) none (.pure (.ixA 15 8 (.t 1) (.t 11)))), 
  (.mk (some 13) none (.pure (.slA 8 1 (.t 12) none none))), 
  (.mk (some 14) none (.cpy 1 (.t 10) (.t 13)))]))) (.ops [
  (.mk (some 15) none (.pure (.bin .add (.t 5) (.c (.i .i64 1))))), 
  (.mk (some 5) none (.pure (.mv (.t 15))))]))))))) (.seq (.ops [
  (.mk (some 16) none (.ld false 120 (.t 3))), 
  (.mk none none (.st 120 (.t 2) (.t 16)))]) .ret)))))
def fn35 : AFn := (AFn.mk 31 [(.c 4 false 120)] (.seq (.ops [
  (.mk (some 2) none (.bx 58 120 (.t 0))), 
  (.mk (some 3) none (.bx 58 120 (.t 1))), 
  (.mk (some 4) none (.al 58 [(.i .i64 0), (.i .i64 0), (.i .i64 0), (.i .i64 0), (.i .i64 0), (.i .i64 0), (.i .i64 0), (.i .i64 0), (.i .i64 0), (.i .i64 0), (.i .i64 0), (.i .i64 0), (.i .i64 0), (.i .i64 0), (.i .i64 0), (.i .i64 0), (.i .i64 0), (.i .i64 0), (.i .i64 0), (.i .i64 0), (.i .i64 0), (.i .i64 0), (.i .i64 0), (.i .i64 0), (.i .i64 0), (.i .i64 0), (.i .i64 0), (.i .i64 0), (.i .i64 0), (.i .i64 0), (.i .i64 0), (.i .i64 0), (.i .i64 0), (.i .i64 0), (.i .i64 0), (.i .i64 0), (.i .i64 0), (.i .i64 0), (.i .i64 0), (.i .i64 0), (.i .i64 0), (.i .i64 0), (.i .i64 0), (.i .i64 0), (.i .i64 0), (.i .i64 0), (.i .i64 0), (.i .i64 0), (.i .i64 0), (.i .i64 0), (.i .i64 0), (.i .i64 0), (.i .i64 0), (.i .i64 0), (.i .i64 0), (.i .i64 0), (.i .i64 0), (.i .i64 0), (.i .i64 0), (.i .i64 0), (.i .i64 0), (.i .i64 0), (.i .i64 0), (.i .i64 0), (.i .i64 0), (.i .i64 0), (.i .i64 0), (.i .i64 0), (.i .i64 0), (.i .i64 0), (.i .i64 0), (.i .i64 0), (.i .i64 0), (.i .i64 0), (.i .i64 0), (.i .i64 0), (.i .i64 0), (.i .i64 0), (.i .i64 0), (.i .i64 0), (.i .i64 0), (.i .i64 0), (.i .i64 0), (.i .i64 0), (.i .i64 0), (.i .i64 0), (.i .i64 0), (.i .i64 0), (.i .i64 0), (.i .i64 0), (.i .i64 0), (.i .i64 0), (.i .i64 0), (.i .i64 0), (.i .i64 0), (.i .i64 0), (.i .i64 0), (.i .i64 0), (.i .i64 0), (.i .i64 0), (.i .i64 0), (.i .i64 0), (.i .i64 0), (.i .i64 0), (.i .i64 0), (.i .i64 0), (.i .i64 0), (.i .i64 0), (.i .i64 0), (.i .i64 0), (.i .i64 0), (.i .i64 0), (.i .i64 0), (.i .i64 0), (.i .i64 0), (.i .i64 0), (.i .i64 0), (.i .i64 0), (.i .i64 0), (.i .i64 0)]))]) (.seq (.seq (.ops [
  (.mk (some 9) none (.ld false 120 (.t 3))), 
  (.mk (some 10) none (.pure (.mv (.c (.i .i64 0)))))]) (.block 0 (.loop (.seq (.ops [
  (.mk (some 11) none (.pure (.bin .lss (.t 10) (.c (.i .i64 15)))))]) (.seq (.cond (.t 11) .skip (.exit 0)) (.seq (.block 1 (.seq (.ops [
  (.mk (some 12) none (.pure (.mv (.t 10)))), 
  (.mk (some 13) none (.pure (.ixV 15 8 false (.t 9) (.t 10)))), 
  (.mk (some 6) none (.al 56 [(.i .i64 0), (.i .i64 0), (.i .i64 0), (.i .i64 0), (.i .i64 0), (.i .i64 0), (.i .i64 0), (.i .i64 0)])), 
  (.mk (some 5) none (.pure (.mv (.t 12)))), 
  (.mk none none (.st 8 (.t 6) (.t 13)))]) (.seq (.ops [
  (.mk (some 14) none (.ld false 8 (.t 6))), 
  (.mk (some 15) none (.pure (.mv (.c (.i .i64 0)))))]) (.block 2 (.loop (.seq (.ops [
  (.mk (some 16) none (.pure (.bin .lss (.t 15) (.c (.i .i64 8)))))]) (.seq (.cond (.t 16) .skip (.exit 2)) (.seq (.block 3 (.seq (.ops [
  (.mk (some 17) none (.pure (.mv (.t 15)))), 
  (.mk (some 18) none (.pure (.ixV 8 1 true (.t 14) (.t 15)))), 
  (.mk (some 7) none (.pure (.mv (.t 17)))), 
  (.mk (some 8) none (.pure (.mv (.t 18))))]) (.ops [
  (.mk (some 19) none (.pure (.mv (.t 5)))), 
  (.mk (some 20) none (.pure (.mv (.t 7)))), 
  (.mk (some 21) none (.pure (.ixA 15 8 (.t 2) (.t 19)))), 
  (.mk (some 22) none (.pure (.ixA 8 1 (.t 21) (.t 20)))), 
  (.mk (some 24) none (.pure (.mv (.t 8)))), 
  (.mk (some 26) none (.pure (.ixA 15 8 (.t 2) (.t 19)))), 
  (.mk (some 23) none (.ld true 1 (.t 22))), 
  (.mk (some 25) none (.pure (.bin .add (.t 23) (.t 24)))), 
  (.mk (some 27) none (.pure (.ixA 8 1 (.t 26) (.t 20)))), 
  (.mk none none (.st 1 (.t 27) (.t 25)))]))) (.ops [
  (.mk (some 28) none (.pure (.bin .add (.t 15) (.c (.i .i64 1))))), 
  (.mk (some 15) none (.pure (.mv (.t 28))))]))))))))) (.ops [
  (.mk (some 29) none (.pure (.bin .add (.t 10) (.c (.i .i64 1))))), 
  (.mk (some 10) none (.pure (.mv (.t 29))))]))))))) (.seq (.ops [
  (.mk (some 30) none (.ld false 120 (.t 2))), 
  (.mk none none (.st 120 (.t 4) (.t 30)))]) .ret))))
def fn37 : AFn := (AFn.mk 8 [(.t 2)] (.seq (.ops [
  (.mk (some 2) none (.pure (.mv (.c .nsl))))]) (.seq (.seq (.ops [
  (.mk (some 3) none (.pure (.mv (.t 0)))), 
  (.mk (some 4) none (.pure (.nilcmp false (.t 3))))]) (.cond (.t 4) (.seq (.ops [
  (.mk (some 2) none (.pure (.mv (.c .nsl))))]) .ret) .skip)) (.seq (.ops [
  (.mk (some 5) none (.bsl 3 1 [(.i .i64 0)] 0 [])), 
  (.mk (some 6) none (.pure (.mv (.t 0)))), 
  (.mk (some 7) none (.app 3 1 8 [(.i .i64 0)] (.t 5) (.t 6))), 
  (.mk (some 2) none (.pure (.mv (.t 7))))]) .ret))))
def fn38 : AFn := (AFn.mk 4 [(.t 2)] (.seq (.ops [
  (.mk (some 1) none (.bx 73 1 (.t 0))), 
  (.mk (some 2) none (.pure (.mv (.c .nfn))))]) (.seq (.ops [
  (.mk (some 3) none (.pure (.mkfn 44 [] [(.t 1)]))), 
  (.mk (some 2) none (.pure (.mv (.t 3))))]) .ret)))
def fn39 : AFn := (AFn.mk 18 [(.t 4)] (.seq (.ops [
  (.mk (some 2) none (.bx 56 8 (.t 0))), 
  (.mk (some 3) none (.bx 3 1 (.t 1))), 
  (.mk (some 4) none (.pure (.mv (.c (.i .i64 0)))))]) (.seq (.ops [
  (.mk (some 5) none (.al 3 [(.i .i64 0)])), 
  (.mk none none (.st 1 (.t 5) (.c (.i .i64 0))))]) (.seq (.seq (.ops [
  (.mk (some 8) none (.pure (.slA 8 1 (.t 2) none none))), 
  (.mk (some 9) none (.call 45 [(.t 8)]))]) (.block 0 (.rng (.t 9) [10, 11] (.ops [
  (.mk (some 7) none (.pure (.mv (.t 11))))]) (.block 1 (.ops [
  (.mk (some 12) none (.ld true 1 (.t 5))), 
  (.mk (some 13) none (.ld true 1 (.t 3))), 
  (.mk (some 14) none (.pure (.bin .mul (.t 12) (.t 13)))), 
  (.mk (some 15) none (.pure (.mv (.t 7)))), 
  (.mk (some 16) none (.pure (.bin .add (.t 14) (.t 15)))), 
  (.mk none none (.st 1 (.t 5) (.t 16)))]))))) (.seq (.ops [
  (.mk (some 17) none (.ld true 1 (.t 5))), 
  (.mk (some 4) none (.pure (.mv (.t 17))))]) .ret)))))
def fn44 : AFn := (AFn.mk 19 [] (.seq (.ops [
  (.mk (some 4) none (.ld true 1 (.t 1))), 
  (.mk (some 5) none (.pure (.len false (.t 4)))), 
  (.mk (some 6) none (.pure (.bin .sub (.t 5) (.c (.i .i64 1))))), 
  (.mk (some 3) none (.pure (.mv (.t 6))))]) (.block 0 (.loop (.seq (.seq (.ops [
  (.mk (some 7) none (.pure (.mv (.t 3)))), 
  (.mk (some 8) none (.pure (.bin .geq (.t 7) (.c (.i .i64 0)))))]) (.cond (.t 8) .skip (.exit 0))) (.seq (.block 1 (.seq (.opsY [
  (.mk (some 11) none (.pure (.mv (.t 0)))), 
  (.mk (some 12) none (.pure (.mv (.t 3)))), 
  (.mk (some 13) none (.ld true 1 (.t 1))), 
  (.mk (some 14) none (.pure (.mv (.t 3)))), 
  (.mk (some 15) none (.pure (.ixS 8 (.t 13) (.t 14)))), 
  (.mk (some 16) none (.ld false 8 (.t 15))), 
  (.mk (some 17) none (.callv (.t 11) [(.t 12), (.t 16)])), 
  (.mk (some 18) none (.pure (.not (.t 17))))]) (.cond (.t 18) .ret .skip))) (.ops [
  (.mk (some 9) none (.pure (.mv (.t 3)))), 
  (.mk (some 10) none (.pure (.bin .sub (.t 9) (.c (.i .i64 1))))), 
  (.mk (some 3) none (.pure (.mv (.t 10))))])))))))
def fn45 : AFn := (AFn.mk 4 [(.t 2)] (.seq (.ops [
  (.mk (some 1) none (.bx 25 1 (.t 0))), 
  (.mk (some 2) none (.pure (.mv (.c .nfn))))]) (.seq (.ops [
  (.mk (some 3) none (.pure (.mkfn 64 [] [(.t 1)]))), 
  (.mk (some 2) none (.pure (.mv (.t 3))))]) .ret)))
def fn64 : AFn := (AFn.mk 19 [] (.seq (.ops [
  (.mk (some 4) none (.ld true 1 (.t 1))), 
  (.mk (some 5) none (.pure (.len false (.t 4)))), 
  (.mk (some 6) none (.pure (.bin .sub (.t 5) (.c (.i .i64 1))))), 
  (.mk (some 3) none (.pure (.mv (.t 6))))]) (.block 0 (.loop (.seq (.seq (.ops [
  (.mk (some 7) none (.pure (.mv (.t 3)))), 
  (.mk (some 8) none (.pure (.bin .geq (.t 7) (.c (.i .i64 0)))))]) (.cond (.t 8) .skip (.exit 0))) (.seq (.block 1 (.seq (.opsY [
  (.mk (some 11) none (.pure (.mv (.t 0)))), 
  (.mk (some 12) none (.pure (.mv (.t 3)))), 
  (.mk (some 13) none (.ld true 1 (.t 1))), 
  (.mk (some 14) none (.pure (.mv (.t 3)))), 
  (.mk (some 15) none (.pure (.ixS 1 (.t 13) (.t 14)))), 
  (.mk (some 16) none (.ld true 1 (.t 15))), 
  (.mk (some 17) none (.callv (.t 11) [(.t 12), (.t 16)])), 
  (.mk (some 18) none (.pure (.not (.t 17))))]) (.cond (.t 18) .ret .skip))) (.ops [
  (.mk (some 9) none (.pure (.mv (.t 3)))), 
  (.mk (some 10) none (.pure (.bin .sub (.t 9) (.c (.i .i64 1))))), 
  (.mk (some 3) none (.pure (.mv (.t 10))))])))))))
def F (f : Nat) : Option AFn := cond (Nat.blt f 22) (cond (Nat.blt f 12) (cond (Nat.blt f 7) (cond (Nat.blt f 5) (cond (Nat.blt f 4) (cond (Nat.beq f 3) (some fn3) none) (cond (Nat.beq f 4) (some fn4) none)) (cond (Nat.blt f 6) (cond (Nat.beq f 5) (some fn5) none) (cond (Nat.beq f 6) (some fn6) none))) (cond (Nat.blt f 9) (cond (Nat.blt f 8) (cond (Nat.beq f 7) (some fn7) none) (cond (Nat.beq f 8) (some fn8) none)) (cond (Nat.blt f 10) (cond (Nat.beq f 9) (some fn9) none) (cond (Nat.blt f 11) (cond (Nat.beq f 10) (some fn10) none) (cond (Nat.beq f 11) (some fn11) none))))) (cond (Nat.blt f 17) (cond (Nat.blt f 14) (cond (Nat.blt f 13) (cond (Nat.beq f 12) (some fn12) none) (cond (Nat.beq f 13) (some fn13) none)) (cond (Nat.blt f 15) (cond (Nat.beq f 14) (some fn14) none) (cond (Nat.blt f 16) (cond (Nat.beq f 15) (some fn15) none) (cond (Nat.beq f 16) (some fn16) none)))) (cond (Nat.blt f 19) (cond (Nat.blt f 18) (cond (Nat.beq f 17) (some fn17) none) (cond (Nat.beq f 18) (some fn18) none)) (cond (Nat.blt f 20) (cond (Nat.beq f 19) (some fn19) none) (cond (Nat.blt f 21) (cond (Nat.beq f 20) (some fn20) none) (cond (Nat.beq f 21) (some fn21) none)))))) (cond (Nat.blt f 32) (cond (Nat.blt f 27) (cond (Nat.blt f 24) (cond (Nat.blt f 23) (cond (Nat.beq f 22) (some fn22) none) (cond (Nat.beq f 23) (some fn23) none)) (cond (Nat.blt f 25) (cond (Nat.beq f 24) (some fn24) none) (cond (Nat.blt f 26) (cond (Nat.beq f 25) (some fn25) none) (cond (Nat.beq f 26) (some fn26) none)))) (cond (Nat.blt f 29) (cond (Nat.blt f 28) (cond (Nat.beq f 27) (some fn27) none) (cond (Nat.beq f 28) (some fn28) none)) (cond (Nat.blt f 30) (cond (Nat.beq f 29) (some fn29) none) (cond (Nat.blt f 31) (cond (Nat.beq f 30) (some fn30) none) (cond (Nat.beq f 31) (some fn31) none))))) (cond (Nat.blt f 38) (cond (Nat.blt f 34) (cond (Nat.blt f 33) (cond (Nat.beq f 32) (some fn32) none) (cond (Nat.beq f 33) (some fn33) none)) (cond (Nat.blt f 35) (cond (Nat.beq f 34) (some fn34) none) (cond (Nat.blt f 37) (cond (Nat.beq f 35) (some fn35) none) (cond (Nat.beq f 37) (some fn37) none)))) (cond (Nat.blt f 44) (cond (Nat.blt f 39) (cond (Nat.beq f 38) (some fn38) none) (cond (Nat.beq f 39) (some fn39) none)) (cond (Nat.blt f 45) (cond (Nat.beq f 44) (some fn44) none) (cond (Nat.blt f 64) (cond (Nat.beq f 45) (some fn45) none) (cond (Nat.beq f 64) (some fn64) none))))))
end Go.Proofs.Ytdjffnfjbeiomaa.T
