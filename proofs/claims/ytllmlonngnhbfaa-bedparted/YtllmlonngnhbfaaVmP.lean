/- The functions that the law reaches, as the small machine takes them. -/
import Derived.Test.YtllmlonngnhbfaaVmA
import Derived.KernelRfl
open Go.Vm
namespace Go.Proofs.Ytllmlonngnhbfaa.Bed
open Go
def fn13 : AFn := (AFn.mk 55 [(.t 2)] (.seq (.ops [
  (.mk (some 2) none (.pure (.mv (.c (.b false)))))]) (.seq (.seq (.ops [
  (.mk (some 7) none (.pure (.mv (.t 0)))), 
  (.mk (some 8) none (.call 16 [(.t 7)])), 
  (.mk (some 9) none (.pure (.not (.t 8)))), 
  (.mk (some 10) none (.pure (.mv (.t 9)))), 
  (.mk (some 11) (some (10, false)) (.pure (.mv (.t 0)))), 
  (.mk (some 12) (some (10, false)) (.call 48 [(.t 11)])), 
  (.mk (some 13) (some (10, false)) (.pure (.not (.t 12)))), 
  (.mk (some 14) none (.pure (.pick (.t 10) (.c (.b true)) (.t 13)))), 
  (.mk (some 15) none (.pure (.mv (.t 14)))), 
  (.mk (some 16) (some (15, false)) (.pure (.mv (.t 0)))), 
  (.mk (some 17) (some (15, false)) (.pure (.len false (.t 16)))), 
  (.mk (some 18) (some (15, false)) (.pure (.bin .gtr (.t 17) (.c (.i .i64 5))))), 
  (.mk (some 19) none (.pure (.pick (.t 15) (.c (.b true)) (.t 18))))]) (.cond (.t 19) (.seq (.ops [
  (.mk (some 20) none (.call 17 [])), 
  (.mk (some 2) none (.pure (.mv (.t 20))))]) .ret) .skip)) (.seq (.ops [
  (.mk (some 3) none (.pure (.mv (.c .nsl))))]) (.seq (.seq (.ops [
  (.mk (some 4) none (.pure (.mv (.c (.i .i64 0)))))]) (.block 0 (.loop (.seq (.seq (.ops [
  (.mk (some 21) none (.pure (.mv (.t 4)))), 
  (.mk (some 22) none (.pure (.mv (.t 0)))), 
  (.mk (some 23) none (.pure (.len false (.t 22)))), 
  (.mk (some 24) none (.pure (.bin .lss (.t 21) (.t 23))))]) (.cond (.t 24) .skip (.exit 0))) (.seq (.block 1 (.ops [
  (.mk (some 27) none (.pure (.mv (.t 3)))), 
  (.mk (some 28) none (.pure (.mv (.t 0)))), 
  (.mk (some 29) none (.pure (.len false (.t 28)))), 
  (.mk (some 30) none (.mk 4 1 1 [(.b false)] (.t 29) (.t 29))), 
  (.mk (some 31) none (.bsl 48 1 [.nsl] 1 [((0, 1), (.t 30))])), 
  (.mk (some 32) none (.app 48 1 24 [.nsl] (.t 27) (.t 31))), 
  (.mk (some 3) none (.pure (.mv (.t 32))))])) (.ops [
  (.mk (some 25) none (.pure (.mv (.t 4)))), 
  (.mk (some 26) none (.pure (.bin .add (.t 25) (.c (.i .i64 1))))), 
  (.mk (some 4) none (.pure (.mv (.t 26))))])))))) (.seq (.ops [
  (.mk (some 34) none (.pure (.mv (.t 0)))), 
  (.mk (some 35) none (.call 37 [(.t 34)])), 
  (.mk (some 33) none (.pure (.mv (.t 35)))), 
  (.mk (some 36) none (.pure (.ext 0 (.t 33)))), 
  (.mk (some 37) none (.pure (.ext 1 (.t 33)))), 
  (.mk (some 5) none (.pure (.mv (.t 36)))), 
  (.mk (some 6) none (.pure (.mv (.t 37))))]) (.seq (.ops [
  (.mk (some 38) none (.pure (.mv (.t 6)))), 
  (.mk (some 39) none (.pure (.bin .eql (.t 38) (.c (.i .i64 0))))), 
  (.mk (some 40) none (.pure (.mv (.t 0)))), 
  (.mk (some 41) none (.pure (.mv (.t 3)))), 
  (.mk (some 42) none (.call 49 [(.t 40), (.t 41), (.c (.i .i64 0))])), 
  (.mk (some 43) none (.pure (.beq false (.t 39) (.t 42)))), 
  (.mk (some 44) none (.pure (.mv (.t 43)))), 
  (.mk (some 45) (some (44, true)) (.pure (.mv (.t 6)))), 
  (.mk (some 46) (some (44, true)) (.pure (.bin .eql (.t 45) (.c (.i .i64 0))))), 
  (.mk (some 47) (some (44, true)) (.pure (.mv (.t 46)))), 
  (.mk (some 48) (some (47, false)) (.pure (.mv (.t 6)))), 
  (.mk (some 49) (some (47, false)) (.pure (.bin .eql (.t 48) (.c (.i .i64 10))))), 
  (.mk (some 50) (some (44, true)) (.pure (.pick (.t 47) (.c (.b true)) (.t 49)))), 
  (.mk (some 51) none (.pure (.pick (.t 44) (.t 50) (.c (.b false))))), 
  (.mk (some 52) none (.pure (.mv (.t 51)))), 
  (.mk (some 53) (some (52, true)) (.call 17 [])), 
  (.mk (some 54) none (.pure (.pick (.t 52) (.t 53) (.c (.b false))))), 
  (.mk (some 2) none (.pure (.mv (.t 54))))]) .ret)))))))
def fn16 : AFn := (AFn.mk 20 [(.t 2)] (.seq (.ops [
  (.mk (some 2) none (.pure (.mv (.c (.b false)))))]) (.seq (.seq (.ops [
  (.mk (some 3) none (.pure (.mv (.c (.i .i64 0)))))]) (.block 0 (.loop (.seq (.seq (.ops [
  (.mk (some 4) none (.pure (.mv (.t 3)))), 
  (.mk (some 5) none (.pure (.mv (.t 0)))), 
  (.mk (some 6) none (.pure (.len false (.t 5)))), 
  (.mk (some 7) none (.pure (.bin .lss (.t 4) (.t 6))))]) (.cond (.t 7) .skip (.exit 0))) (.seq (.block 1 (.seq (.ops [
  (.mk (some 10) none (.pure (.mv (.t 3)))), 
  (.mk (some 11) none (.pure (.bin .geq (.t 10) (.c (.i .i64 20))))), 
  (.mk (some 12) none (.pure (.mv (.t 11)))), 
  (.mk (some 13) (some (12, false)) (.pure (.mv (.t 0)))), 
  (.mk (some 14) (some (12, false)) (.pure (.mv (.t 3)))), 
  (.mk (some 15) (some (12, false)) (.pure (.ixS 1 (.t 13) (.t 14)))), 
  (.mk (some 16) (some (12, false)) (.ld true 1 (.t 15))), 
  (.mk (some 17) (some (12, false)) (.pure (.len false (.t 16)))), 
  (.mk (some 18) (some (12, false)) (.pure (.bin .gtr (.t 17) (.c (.i .i64 20))))), 
  (.mk (some 19) none (.pure (.pick (.t 12) (.c (.b true)) (.t 18))))]) (.cond (.t 19) (.seq (.ops [
  (.mk (some 2) none (.pure (.mv (.c (.b false)))))]) .ret) .skip))) (.ops [
  (.mk (some 8) none (.pure (.mv (.t 3)))), 
  (.mk (some 9) none (.pure (.bin .add (.t 8) (.c (.i .i64 1))))), 
  (.mk (some 3) none (.pure (.mv (.t 9))))])))))) (.seq (.ops [
  (.mk (some 2) none (.pure (.mv (.c (.b true)))))]) .ret))))
def fn17 : AFn := (AFn.mk 65 [(.t 0)] (.seq (.ops [
  (.mk (some 0) none (.pure (.mv (.c (.b false)))))]) (.seq (.ops [
  (.mk (some 10) none (.call 39 [(.c (.i .i64 3)), (.c (.i .i64 1))])), 
  (.mk (some 9) none (.pure (.mv (.t 10)))), 
  (.mk (some 11) none (.pure (.ext 0 (.t 9)))), 
  (.mk (some 12) none (.pure (.ext 1 (.t 9)))), 
  (.mk (some 1) none (.pure (.mv (.t 11)))), 
  (.mk (some 2) none (.pure (.mv (.t 12))))]) (.seq (.ops [
  (.mk (some 14) none (.pure (.mv (.t 1)))), 
  (.mk (some 15) none (.call 37 [(.t 14)])), 
  (.mk (some 13) none (.pure (.mv (.t 15)))), 
  (.mk (some 16) none (.pure (.ext 0 (.t 13)))), 
  (.mk (some 17) none (.pure (.ext 1 (.t 13)))), 
  (.mk (some 3) none (.pure (.mv (.t 16)))), 
  (.mk (some 4) none (.pure (.mv (.t 17))))]) (.seq (.ops [
  (.mk (some 19) none (.pure (.mv (.t 1)))), 
  (.mk (some 20) none (.call 33 [(.t 19)])), 
  (.mk (some 18) none (.pure (.mv (.t 20)))), 
  (.mk (some 21) none (.pure (.ext 0 (.t 18)))), 
  (.mk (some 22) none (.pure (.ext 1 (.t 18)))), 
  (.mk (some 5) none (.pure (.mv (.t 21)))), 
  (.mk (some 6) none (.pure (.mv (.t 22))))]) (.seq (.ops [
  (.mk (some 24) none (.bsl 3 1 [(.i .i64 0)] 3 [((0, 1), (.c (.i .i64 0))), ((1, 1), (.c (.i .i64 (-1)))), ((2, 1), (.c (.i .i64 (-1))))])), 
  (.mk (some 25) none (.bsl 3 1 [(.i .i64 0)] 3 [((0, 1), (.c (.i .i64 (-1)))), ((1, 1), (.c (.i .i64 (-1)))), ((2, 1), (.c (.i .i64 0)))])), 
  (.mk (some 26) none (.bsl 3 1 [(.i .i64 0)] 3 [((0, 1), (.c (.i .i64 (-1)))), ((1, 1), (.c (.i .i64 (-1)))), ((2, 1), (.c (.i .i64 (-1))))])), 
  (.mk (some 27) none (.bsl 32 1 [.nsl] 3 [((0, 1), (.t 24)), ((1, 1), (.t 25)), ((2, 1), (.t 26))])), 
  (.mk (some 28) none (.call 23 [(.t 27)])), 
  (.mk (some 23) none (.pure (.mv (.t 28)))), 
  (.mk (some 29) none (.pure (.ext 0 (.t 23)))), 
  (.mk (some 30) none (.pure (.ext 1 (.t 23)))), 
  (.mk (some 7) none (.pure (.mv (.t 29)))), 
  (.mk (some 8) none (.pure (.mv (.t 30))))]) (.seq (.ops [
  (.mk (some 31) none (.pure (.mv (.t 2)))), 
  (.mk (some 32) none (.pure (.bin .eql (.t 31) (.c (.i .i64 0))))), 
  (.mk (some 33) none (.pure (.mv (.t 32)))), 
  (.mk (some 34) (some (33, true)) (.pure (.mv (.t 4)))), 
  (.mk (some 35) (some (33, true)) (.pure (.bin .eql (.t 34) (.c (.i .i64 0))))), 
  (.mk (some 36) none (.pure (.pick (.t 33) (.t 35) (.c (.b false))))), 
  (.mk (some 37) none (.pure (.mv (.t 36)))), 
  (.mk (some 38) (some (37, true)) (.pure (.mv (.t 3)))), 
  (.mk (some 39) (some (37, true)) (.bsl 3 1 [(.i .i64 0)] 3 [((0, 1), (.c (.i .i64 0))), ((1, 1), (.c (.i .i64 1))), ((2, 1), (.c (.i .i64 2)))])), 
  (.mk (some 40) (some (37, true)) (.bsl 3 1 [(.i .i64 0)] 3 [((0, 1), (.c (.i .i64 2))), ((1, 1), (.c (.i .i64 0))), ((2, 1), (.c (.i .i64 1)))])), 
  (.mk (some 41) (some (37, true)) (.bsl 3 1 [(.i .i64 0)] 3 [((0, 1), (.c (.i .i64 1))), ((1, 1), (.c (.i .i64 2))), ((2, 1), (.c (.i .i64 0)))])), 
  (.mk (some 42) (some (37, true)) (.bsl 32 1 [.nsl] 3 [((0, 1), (.t 39)), ((1, 1), (.t 40)), ((2, 1), (.t 41))])), 
  (.mk (some 43) (some (37, true)) (.call 21 [(.t 38), (.t 42)])), 
  (.mk (some 44) none (.pure (.pick (.t 37) (.t 43) (.c (.b false))))), 
  (.mk (some 45) none (.pure (.mv (.t 44)))), 
  (.mk (some 46) (some (45, true)) (.pure (.mv (.t 6)))), 
  (.mk (some 47) (some (45, true)) (.pure (.bin .eql (.t 46) (.c (.i .i64 0))))), 
  (.mk (some 48) none (.pure (.pick (.t 45) (.t 47) (.c (.b false))))), 
  (.mk (some 49) none (.pure (.mv (.t 48)))), 
  (.mk (some 50) (some (49, true)) (.pure (.mv (.t 5)))), 
  (.mk (some 51) (some (49, true)) (.pure (.bin .eql (.t 50) (.c (.i .i64 3))))), 
  (.mk (some 52) none (.pure (.pick (.t 49) (.t 51) (.c (.b false))))), 
  (.mk (some 53) none (.pure (.mv (.t 52)))), 
  (.mk (some 54) (some (53, true)) (.pure (.mv (.t 8)))), 
  (.mk (some 55) (some (53, true)) (.pure (.bin .eql (.t 54) (.c (.i .i64 0))))), 
  (.mk (some 56) none (.pure (.pick (.t 53) (.t 55) (.c (.b false))))), 
  (.mk (some 57) none (.pure (.mv (.t 56)))), 
  (.mk (some 58) (some (57, true)) (.pure (.mv (.t 7)))), 
  (.mk (some 59) (some (57, true)) (.bsl 3 1 [(.i .i64 0)] 3 [((0, 1), (.c (.i .i64 0))), ((1, 1), (.c (.i .i64 1))), ((2, 1), (.c (.i .i64 2)))])), 
  (.mk (some 60) (some (57, true)) (.bsl 3 1 [(.i .i64 0)] 3 [((0, 1), (.c (.i .i64 1))), ((1, 1), (.c (.i .i64 2))), ((2, 1), (.c (.i .i64 0)))])), 
  (.mk (some 61) (some (57, true)) (.bsl 3 1 [(.i .i64 0)] 3 [((0, 1), (.c (.i .i64 2))), ((1, 1), (.c (.i .i64 0))), ((2, 1), (.c (.i .i64 1)))])), 
  (.mk (some 62) (some (57, true)) (.bsl 32 1 [.nsl] 3 [((0, 1), (.t 59)), ((1, 1), (.t 60)), ((2, 1), (.t 61))])), 
  (.mk (some 63) (some (57, true)) (.call 21 [(.t 58), (.t 62)])), 
  (.mk (some 64) none (.pure (.pick (.t 57) (.t 63) (.c (.b false))))), 
  (.mk (some 0) none (.pure (.mv (.t 64))))]) .ret)))))))
def fn19 : AFn := (AFn.mk 51 [(.t 2), (.t 3), (.t 4)] (.seq (.ops [
  (.mk (some 2) none (.pure (.mv (.c (.i .i64 0))))), 
  (.mk (some 3) none (.pure (.mv (.c (.i .i64 0))))), 
  (.mk (some 4) none (.pure (.mv (.c (.i .i64 0)))))]) (.seq (.seq (.ops [
  (.mk (some 10) none (.pure (.mv (.t 0)))), 
  (.mk (some 11) none (.call 51 [(.t 10)])), 
  (.mk (some 12) none (.pure (.not (.t 11))))]) (.cond (.t 12) (.seq (.ops [
  (.mk (some 2) none (.pure (.mv (.c (.i .i64 0))))), 
  (.mk (some 3) none (.pure (.mv (.c (.i .i64 0))))), 
  (.mk (some 4) none (.pure (.mv (.c (.i .i64 2)))))]) .ret) .skip)) (.seq (.ops [
  (.mk (some 13) none (.pure (.mv (.t 0)))), 
  (.mk (some 14) none (.pure (.len false (.t 13)))), 
  (.mk (some 15) none (.call 52 [(.t 14)])), 
  (.mk (some 5) none (.pure (.mv (.t 15))))]) (.seq (.seq (.ops [
  (.mk (some 16) none (.pure (.mv (.t 0)))), 
  (.mk (some 17) none (.pure (.len false (.t 16)))), 
  (.mk (some 18) none (.pure (.mv (.c (.i .i64 0)))))]) (.block 0 (.loop (.seq (.ops [
  (.mk (some 19) none (.pure (.bin .lss (.t 18) (.t 17))))]) (.seq (.cond (.t 19) .skip (.exit 0)) (.seq (.block 1 (.seq (.ops [
  (.mk (some 20) none (.pure (.mv (.t 18)))), 
  (.mk (some 21) none (.pure (.ixS 1 (.t 16) (.t 18)))), 
  (.mk (some 22) none (.ld true 1 (.t 21))), 
  (.mk (some 6) none (.pure (.mv (.t 20)))), 
  (.mk (some 7) none (.pure (.mv (.t 22))))]) (.seq (.ops [
  (.mk (some 23) none (.pure (.mv (.t 7)))), 
  (.mk (some 24) none (.pure (.len false (.t 23)))), 
  (.mk (some 25) none (.pure (.mv (.c (.i .i64 0)))))]) (.block 2 (.loop (.seq (.ops [
  (.mk (some 26) none (.pure (.bin .lss (.t 25) (.t 24))))]) (.seq (.cond (.t 26) .skip (.exit 2)) (.seq (.block 3 (.seq (.ops [
  (.mk (some 27) none (.pure (.mv (.t 25)))), 
  (.mk (some 28) none (.pure (.ixS 1 (.t 23) (.t 25)))), 
  (.mk (some 29) none (.ld true 1 (.t 28))), 
  (.mk (some 8) none (.pure (.mv (.t 27)))), 
  (.mk (some 9) none (.pure (.mv (.t 29))))]) (.seq (.seq (.ops [
  (.mk (some 30) none (.pure (.mv (.t 9)))), 
  (.mk (some 31) none (.pure (.bin .eql (.t 30) (.c (.i .i64 (-1))))))]) (.cond (.t 31) (.exit 3) .skip)) (.seq (.seq (.ops [
  (.mk (some 32) none (.pure (.mv (.t 5)))), 
  (.mk (some 33) none (.pure (.mv (.t 6)))), 
  (.mk (some 34) none (.pure (.mv (.t 8)))), 
  (.mk (some 35) none (.pure (.build [(.i .i64 0), (.i .i64 0), (.i .i64 0), (.i .i64 0)] [((0, 1), (.c (.i .i64 0))), ((1, 1), (.t 33)), ((2, 1), (.c (.i .i64 1))), ((3, 1), (.t 34))]))), 
  (.mk (some 36) none (.call 53 [(.t 32), (.t 35)])), 
  (.mk (some 37) none (.pure (.mv (.t 9)))), 
  (.mk (some 38) none (.pure (.bin .shr (.t 36) (.t 37)))), 
  (.mk (some 39) none (.pure (.bin .and (.t 38) (.c (.i .u8 1))))), 
  (.mk (some 40) none (.pure (.bin .eql (.t 39) (.c (.i .u8 0)))))]) (.cond (.t 40) (.seq (.ops [
  (.mk (some 41) none (.pure (.mv (.t 6)))), 
  (.mk (some 42) none (.pure (.mv (.t 8)))), 
  (.mk (some 2) none (.pure (.mv (.t 41)))), 
  (.mk (some 3) none (.pure (.mv (.t 42)))), 
  (.mk (some 4) none (.pure (.mv (.c (.i .i64 0)))))]) .ret) .skip)) (.ops [
  (.mk (some 43) none (.pure (.mv (.t 5)))), 
  (.mk (some 44) none (.pure (.mv (.t 6)))), 
  (.mk (some 45) none (.pure (.mv (.t 8)))), 
  (.mk (some 46) none (.pure (.mv (.t 9)))), 
  (.mk (some 47) none (.pure (.build [(.i .i64 0), (.i .i64 0), (.i .i64 0)] [((0, 1), (.t 44)), ((1, 1), (.t 45)), ((2, 1), (.t 46))]))), 
  (.mk (some 48) none (.call 54 [(.t 43), (.t 47)]))]))))) (.ops [
  (.mk (some 49) none (.pure (.bin .add (.t 25) (.c (.i .i64 1))))), 
  (.mk (some 25) none (.pure (.mv (.t 49))))]))))))))) (.ops [
  (.mk (some 50) none (.pure (.bin .add (.t 18) (.c (.i .i64 1))))), 
  (.mk (some 18) none (.pure (.mv (.t 50))))]))))))) (.seq (.ops [
  (.mk (some 2) none (.pure (.mv (.c (.i .i64 0))))), 
  (.mk (some 3) none (.pure (.mv (.c (.i .i64 0))))), 
  (.mk (some 4) none (.pure (.mv (.c (.i .i64 10)))))]) .ret))))))
def fn21 : AFn := (AFn.mk 27 [(.t 4)] (.seq (.ops [
  (.mk (some 4) none (.pure (.mv (.c (.b false)))))]) (.seq (.seq (.ops [
  (.mk (some 6) none (.pure (.mv (.t 0)))), 
  (.mk (some 7) none (.pure (.len false (.t 6)))), 
  (.mk (some 8) none (.pure (.mv (.t 1)))), 
  (.mk (some 9) none (.pure (.len false (.t 8)))), 
  (.mk (some 10) none (.pure (.bin .neq (.t 7) (.t 9))))]) (.cond (.t 10) (.seq (.ops [
  (.mk (some 4) none (.pure (.mv (.c (.b false)))))]) .ret) .skip)) (.seq (.seq (.ops [
  (.mk (some 5) none (.pure (.mv (.c (.i .i64 0)))))]) (.block 0 (.loop (.seq (.seq (.ops [
  (.mk (some 11) none (.pure (.mv (.t 5)))), 
  (.mk (some 12) none (.pure (.mv (.t 0)))), 
  (.mk (some 13) none (.pure (.len false (.t 12)))), 
  (.mk (some 14) none (.pure (.bin .lss (.t 11) (.t 13))))]) (.cond (.t 14) .skip (.exit 0))) (.seq (.block 1 (.seq (.any [(
  (.mk (some 17) none (.pure (.mv (.t 0)))), false), (
  (.mk (some 18) none (.pure (.mv (.t 5)))), false), (
  (.mk (some 19) none (.pure (.ixS 1 (.t 17) (.t 18)))), false), (
  (.mk (some 20) none (.ld true 1 (.t 19))), false), (
  (.mk (some 21) none (.pure (.mv (.t 1)))), false), (
  (.mk (some 22) none (.pure (.mv (.t 5)))), false), (
  (.mk (some 23) none (.pure (.ixS 1 (.t 21) (.t 22)))), false), (
  (.mk (some 24) none (.ld true 1 (.t 23))), false), (
  (.mk (some 25) none (.call 28 [(.t 20), (.t 24)])), false), (
  (.mk (some 26) none (.pure (.not (.t 25)))), false)]) (.cond (.t 26) (.seq (.ops [
  (.mk (some 4) none (.pure (.mv (.c (.b false)))))]) .ret) .skip))) (.ops [
  (.mk (some 15) none (.pure (.mv (.t 5)))), 
  (.mk (some 16) none (.pure (.bin .add (.t 15) (.c (.i .i64 1))))), 
  (.mk (some 5) none (.pure (.mv (.t 16))))])))))) (.seq (.ops [
  (.mk (some 4) none (.pure (.mv (.c (.b true)))))]) .ret)))))
def fn23 : AFn := (AFn.mk 53 [(.t 2), (.t 3)] (.seq (.ops [
  (.mk (some 2) none (.pure (.mv (.c .nsl)))), 
  (.mk (some 3) none (.pure (.mv (.c (.i .i64 0)))))]) (.seq (.ops [
  (.mk (some 10) none (.pure (.mv (.t 0)))), 
  (.mk (some 11) none (.call 59 [(.t 10)])), 
  (.mk (some 9) none (.pure (.mv (.t 11)))), 
  (.mk (some 12) none (.pure (.ext 0 (.t 9)))), 
  (.mk (some 13) none (.pure (.ext 1 (.t 9)))), 
  (.mk (some 4) none (.pure (.mv (.t 12)))), 
  (.mk (some 5) none (.pure (.mv (.t 13))))]) (.seq (.seq (.ops [
  (.mk (some 14) none (.pure (.mv (.t 5)))), 
  (.mk (some 15) none (.pure (.bin .neq (.t 14) (.c (.i .i64 0)))))]) (.cond (.t 15) (.seq (.ops [
  (.mk (some 16) none (.pure (.mv (.t 5)))), 
  (.mk (some 2) none (.pure (.mv (.c .nsl)))), 
  (.mk (some 3) none (.pure (.mv (.t 16))))]) .ret) .skip)) (.seq (.ops [
  (.mk (some 17) none (.pure (.mv (.t 4)))), 
  (.mk (some 18) none (.pure (.nilck (.t 17)))), 
  (.mk (some 19) none (.ld false 113 (.t 18))), 
  (.mk (some 6) none (.al 75 [(.i .i64 0), (.i .i64 0), (.i .i64 0), (.i .i64 0), (.i .i64 0), (.i .i64 0), (.i .i64 0), (.i .i64 0), (.i .i64 0), (.i .i64 0), (.i .i64 0), (.i .i64 0), (.i .i64 0), (.i .i64 0), (.i .i64 0), (.i .i64 0), (.i .i64 0), (.i .i64 0), (.i .i64 0), (.i .i64 0), (.i .i64 0), (.i .i64 0), (.i .i64 0), (.i .i64 0), (.i .i64 0), (.i .i64 0), (.i .i64 0), (.i .i64 0), (.i .i64 0), (.i .i64 0), (.i .i64 0), (.i .i64 0), (.i .i64 0), (.i .i64 0), (.i .i64 0), (.i .i64 0), (.i .i64 0), (.i .i64 0), (.i .i64 0), (.i .i64 0), (.i .i64 0), (.i .i64 0), (.i .i64 0), (.i .i64 0), (.i .i64 0), (.i .i64 0), (.i .i64 0), (.i .i64 0), (.i .i64 0), (.i .i64 0), (.i .u8 0), (.i .u8 0), (.i .u8 0), (.i .u8 0), (.i .u8 0), (.i .u8 0), (.i .u8 0), (.i .u8 0), (.i .u8 0), (.i .u8 0), (.i .u8 0), (.i .u8 0), (.i .u8 0), (.i .u8 0), (.i .u8 0), (.i .u8 0), (.i .u8 0), (.i .u8 0), (.i .u8 0), (.i .u8 0), (.i .u8 0), (.i .u8 0), (.i .u8 0), (.i .u8 0), (.i .u8 0), (.i .u8 0), (.i .u8 0), (.i .u8 0), (.i .u8 0), (.i .u8 0), (.i .u8 0), (.i .u8 0), (.i .u8 0), (.i .u8 0), (.i .u8 0), (.i .u8 0), (.i .u8 0), (.i .u8 0), (.i .u8 0), (.i .u8 0), (.i .u8 0), (.i .u8 0), (.i .u8 0), (.i .u8 0), (.i .u8 0), (.i .u8 0), (.i .u8 0), (.i .u8 0), (.i .u8 0), (.i .u8 0), (.i .u8 0), (.i .u8 0), (.i .u8 0), (.i .u8 0), (.i .u8 0), (.i .u8 0), (.i .u8 0), (.i .u8 0), (.i .u8 0), (.i .u8 0), (.i .u8 0), (.i .u8 0), (.i .u8 0)])), 
  (.mk none none (.st 113 (.t 6) (.t 19)))]) (.seq (.seq (.ops [
  (.mk (some 20) none (.call 60 [(.t 6)])), 
  (.mk (some 21) none (.pure (.not (.t 20))))]) (.cond (.t 21) (.seq (.ops [
  (.mk (some 2) none (.pure (.mv (.c .nsl)))), 
  (.mk (some 3) none (.pure (.mv (.c (.i .i64 10)))))]) .ret) .skip)) (.seq (.seq (.ops [
  (.mk (some 22) none (.pure (.mv (.t 4)))), 
  (.mk (some 23) none (.pure (.nilck (.t 22)))), 
  (.mk (some 24) none (.pure (.faddr 0 (.t 23)))), 
  (.mk (some 25) none (.ld true 1 (.t 24))), 
  (.mk (some 26) none (.pure (.mv (.c (.i .i64 0)))))]) (.block 0 (.loop (.seq (.ops [
  (.mk (some 27) none (.pure (.bin .lss (.t 26) (.t 25))))]) (.seq (.cond (.t 27) .skip (.exit 0)) (.seq (.block 1 (.seq (.ops [
  (.mk (some 28) none (.pure (.mv (.t 26)))), 
  (.mk (some 7) none (.pure (.mv (.t 28))))]) (.seq (.ops [
  (.mk (some 29) none (.pure (.mv (.t 4)))), 
  (.mk (some 30) none (.pure (.nilck (.t 29)))), 
  (.mk (some 31) none (.pure (.faddr 0 (.t 30)))), 
  (.mk (some 32) none (.ld true 1 (.t 31))), 
  (.mk (some 33) none (.pure (.mv (.c (.i .i64 0)))))]) (.block 2 (.loop (.seq (.ops [
  (.mk (some 34) none (.pure (.bin .lss (.t 33) (.t 32))))]) (.seq (.cond (.t 34) .skip (.exit 2)) (.seq (.block 3 (.seq (.ops [
  (.mk (some 35) none (.pure (.mv (.t 33)))), 
  (.mk (some 8) none (.pure (.mv (.t 35))))]) (.seq (.ops [
  (.mk (some 36) none (.pure (.mv (.t 4)))), 
  (.mk (some 37) none (.pure (.mv (.t 7)))), 
  (.mk (some 38) none (.pure (.mv (.t 8)))), 
  (.mk (some 39) none (.pure (.nilck (.t 36)))), 
  (.mk (some 40) none (.pure (.faddr 1 (.t 39)))), 
  (.mk (some 41) none (.pure (.ixA 7 7 (.t 40) (.t 37)))), 
  (.mk (some 42) none (.pure (.ixA 7 1 (.t 41) (.t 38)))), 
  (.mk (some 43) none (.ld true 1 (.t 42))), 
  (.mk (some 44) none (.pure (.bin .eql (.t 43) (.c (.i .i64 (-1))))))]) (.cond (.t 44) (.ops [
  (.mk (some 45) none (.pure (.mv (.t 4)))), 
  (.mk (some 46) none (.pure (.mv (.t 7)))), 
  (.mk (some 47) none (.pure (.mv (.t 8)))), 
  (.mk (some 48) none (.call 61 [(.t 45), (.t 46), (.t 47), (.t 6)]))]) .skip)))) (.ops [
  (.mk (some 49) none (.pure (.bin .add (.t 33) (.c (.i .i64 1))))), 
  (.mk (some 33) none (.pure (.mv (.t 49))))]))))))))) (.ops [
  (.mk (some 50) none (.pure (.bin .add (.t 26) (.c (.i .i64 1))))), 
  (.mk (some 26) none (.pure (.mv (.t 50))))]))))))) (.seq (.ops [
  (.mk (some 51) none (.pure (.mv (.t 4)))), 
  (.mk (some 52) none (.call 62 [(.t 51)])), 
  (.mk (some 2) none (.pure (.mv (.t 52)))), 
  (.mk (some 3) none (.pure (.mv (.c (.i .i64 0)))))]) .ret))))))))
def fn28 : AFn := (AFn.mk 26 [(.t 4)] (.seq (.ops [
  (.mk (some 4) none (.pure (.mv (.c (.b false)))))]) (.seq (.seq (.ops [
  (.mk (some 6) none (.pure (.mv (.t 0)))), 
  (.mk (some 7) none (.pure (.len false (.t 6)))), 
  (.mk (some 8) none (.pure (.mv (.t 1)))), 
  (.mk (some 9) none (.pure (.len false (.t 8)))), 
  (.mk (some 10) none (.pure (.bin .neq (.t 7) (.t 9))))]) (.cond (.t 10) (.seq (.ops [
  (.mk (some 4) none (.pure (.mv (.c (.b false)))))]) .ret) .skip)) (.seq (.seq (.ops [
  (.mk (some 5) none (.pure (.mv (.c (.i .i64 0)))))]) (.block 0 (.loop (.seq (.seq (.ops [
  (.mk (some 11) none (.pure (.mv (.t 5)))), 
  (.mk (some 12) none (.pure (.mv (.t 0)))), 
  (.mk (some 13) none (.pure (.len false (.t 12)))), 
  (.mk (some 14) none (.pure (.bin .lss (.t 11) (.t 13))))]) (.cond (.t 14) .skip (.exit 0))) (.seq (.block 1 (.seq (.any [(
  (.mk (some 17) none (.pure (.mv (.t 0)))), false), (
  (.mk (some 18) none (.pure (.mv (.t 5)))), false), (
  (.mk (some 19) none (.pure (.ixS 1 (.t 17) (.t 18)))), false), (
  (.mk (some 20) none (.ld true 1 (.t 19))), false), (
  (.mk (some 21) none (.pure (.mv (.t 1)))), false), (
  (.mk (some 22) none (.pure (.mv (.t 5)))), false), (
  (.mk (some 23) none (.pure (.ixS 1 (.t 21) (.t 22)))), false), (
  (.mk (some 24) none (.ld true 1 (.t 23))), false), (
  (.mk (some 25) none (.pure (.bin .neq (.t 20) (.t 24)))), false)]) (.cond (.t 25) (.seq (.ops [
  (.mk (some 4) none (.pure (.mv (.c (.b false)))))]) .ret) .skip))) (.ops [
  (.mk (some 15) none (.pure (.mv (.t 5)))), 
  (.mk (some 16) none (.pure (.bin .add (.t 15) (.c (.i .i64 1))))), 
  (.mk (some 5) none (.pure (.mv (.t 16))))])))))) (.seq (.ops [
  (.mk (some 4) none (.pure (.mv (.c (.b true)))))]) .ret)))))
def fn33 : AFn := (AFn.mk 19 [(.t 2), (.t 3)] (.seq (.ops [
  (.mk (some 2) none (.pure (.mv (.c (.i .i64 0))))), 
  (.mk (some 3) none (.pure (.mv (.c (.i .i64 0)))))]) (.seq (.ops [
  (.mk (some 8) none (.pure (.mv (.t 0)))), 
  (.mk (some 9) none (.call 71 [(.t 8)])), 
  (.mk (some 7) none (.pure (.mv (.t 9)))), 
  (.mk (some 10) none (.pure (.ext 0 (.t 7)))), 
  (.mk (some 11) none (.pure (.ext 1 (.t 7)))), 
  (.mk (some 4) none (.pure (.mv (.t 10)))), 
  (.mk (some 5) none (.pure (.mv (.t 11))))]) (.seq (.seq (.ops [
  (.mk (some 12) none (.pure (.mv (.t 5)))), 
  (.mk (some 13) none (.pure (.bin .neq (.t 12) (.c (.i .i64 0)))))]) (.cond (.t 13) (.seq (.ops [
  (.mk (some 14) none (.pure (.mv (.t 5)))), 
  (.mk (some 2) none (.pure (.mv (.c (.i .i64 0))))), 
  (.mk (some 3) none (.pure (.mv (.t 14))))]) .ret) .skip)) (.seq (.ops [
  (.mk (some 6) none (.al 3 [(.i .i64 0)])), 
  (.mk none none (.st 1 (.t 6) (.c (.i .i64 0))))]) (.seq (.ops [
  (.mk (some 15) none (.pure (.mv (.t 4)))), 
  (.mk (some 16) none (.pure (.mkfn 76 [] [(.t 6)]))), 
  (.mk (some 17) none (.call 72 [(.t 15), (.t 16)]))]) (.seq (.ops [
  (.mk (some 18) none (.ld true 1 (.t 6))), 
  (.mk (some 2) none (.pure (.mv (.t 18)))), 
  (.mk (some 3) none (.pure (.mv (.c (.i .i64 0)))))]) .ret)))))))
def fn37 : AFn := (AFn.mk 32 [(.t 2), (.t 3)] (.seq (.ops [
  (.mk (some 2) none (.pure (.mv (.c .nsl)))), 
  (.mk (some 3) none (.pure (.mv (.c (.i .i64 0)))))]) (.seq (.ops [
  (.mk (some 9) none (.pure (.mv (.t 0)))), 
  (.mk (some 10) none (.call 71 [(.t 9)])), 
  (.mk (some 8) none (.pure (.mv (.t 10)))), 
  (.mk (some 11) none (.pure (.ext 0 (.t 8)))), 
  (.mk (some 12) none (.pure (.ext 1 (.t 8)))), 
  (.mk (some 4) none (.pure (.mv (.t 11)))), 
  (.mk (some 5) none (.pure (.mv (.t 12))))]) (.seq (.seq (.ops [
  (.mk (some 13) none (.pure (.mv (.t 5)))), 
  (.mk (some 14) none (.pure (.bin .neq (.t 13) (.c (.i .i64 0)))))]) (.cond (.t 14) (.seq (.ops [
  (.mk (some 15) none (.pure (.mv (.t 5)))), 
  (.mk (some 2) none (.pure (.mv (.c .nsl)))), 
  (.mk (some 3) none (.pure (.mv (.t 15))))]) .ret) .skip)) (.seq (.seq (.ops [
  (.mk (some 16) none (.pure (.mv (.t 4)))), 
  (.mk (some 17) none (.pure (.nilck (.t 16)))), 
  (.mk (some 18) none (.pure (.faddr 0 (.t 17)))), 
  (.mk (some 19) none (.ld true 1 (.t 18))), 
  (.mk (some 20) none (.pure (.bin .gtr (.t 19) (.c (.i .i64 5)))))]) (.cond (.t 20) (.seq (.ops [
  (.mk (some 2) none (.pure (.mv (.c .nsl)))), 
  (.mk (some 3) none (.pure (.mv (.c (.i .i64 2)))))]) .ret) .skip)) (.seq (.ops [
  (.mk (some 21) none (.pure (.mv (.t 4)))), 
  (.mk (some 22) none (.pure (.nilck (.t 21)))), 
  (.mk (some 23) none (.pure (.faddr 0 (.t 22)))), 
  (.mk (some 24) none (.ld true 1 (.t 23))), 
  (.mk (some 25) none (.call 52 [(.t 24)])), 
  (.mk (some 6) none (.pure (.mv (.t 25))))]) (.seq (.ops [
  (.mk (some 7) none (.al 71 [(.i .u8 0), (.i .u8 0), (.i .u8 0), (.i .u8 0), (.i .u8 0), (.i .u8 0), (.i .u8 0)]))]) (.seq (.seq (.ops [
  (.mk (some 26) none (.pure (.mv (.t 6)))), 
  (.mk (some 27) none (.pure (.mv (.t 4)))), 
  (.mk (some 28) none (.call 78 [(.t 26), (.t 27), (.c (.i .i64 0)), (.t 7)])), 
  (.mk (some 29) none (.pure (.not (.t 28))))]) (.cond (.t 29) (.seq (.ops [
  (.mk (some 2) none (.pure (.mv (.c .nsl)))), 
  (.mk (some 3) none (.pure (.mv (.c (.i .i64 10)))))]) .ret) .skip)) (.seq (.ops [
  (.mk (some 30) none (.pure (.mv (.t 6)))), 
  (.mk (some 31) none (.call 62 [(.t 30)])), 
  (.mk (some 2) none (.pure (.mv (.t 31)))), 
  (.mk (some 3) none (.pure (.mv (.c (.i .i64 0)))))]) .ret)))))))))
def fn39 : AFn := (AFn.mk 66 [(.t 4), (.t 5)] (.seq (.ops [
  (.mk (some 4) none (.pure (.mv (.c .nsl)))), 
  (.mk (some 5) none (.pure (.mv (.c (.i .i64 0)))))]) (.seq (.seq (.ops [
  (.mk (some 9) none (.pure (.mv (.t 0)))), 
  (.mk (some 10) none (.pure (.bin .lss (.t 9) (.c (.i .i64 1))))), 
  (.mk (some 11) none (.pure (.mv (.t 10)))), 
  (.mk (some 12) (some (11, false)) (.pure (.mv (.t 0)))), 
  (.mk (some 13) (some (11, false)) (.pure (.bin .gtr (.t 12) (.c (.i .i64 7))))), 
  (.mk (some 14) none (.pure (.pick (.t 11) (.c (.b true)) (.t 13)))), 
  (.mk (some 15) none (.pure (.mv (.t 14)))), 
  (.mk (some 16) (some (15, false)) (.pure (.mv (.t 1)))), 
  (.mk (some 17) (some (15, false)) (.pure (.bin .lss (.t 16) (.c (.i .i64 1))))), 
  (.mk (some 18) none (.pure (.pick (.t 15) (.c (.b true)) (.t 17)))), 
  (.mk (some 19) none (.pure (.mv (.t 18)))), 
  (.mk (some 20) (some (19, false)) (.pure (.mv (.t 1)))), 
  (.mk (some 21) (some (19, false)) (.pure (.mv (.t 0)))), 
  (.mk (some 22) (some (19, false)) (.pure (.bin .gtr (.t 20) (.t 21)))), 
  (.mk (some 23) none (.pure (.pick (.t 19) (.c (.b true)) (.t 22)))), 
  (.mk (some 24) none (.pure (.mv (.t 23)))), 
  (.mk (some 25) (some (24, false)) (.pure (.mv (.t 0)))), 
  (.mk (some 26) (some (24, false)) (.pure (.mv (.t 1)))), 
  (.mk (some 27) (some (24, false)) (.call 80 [(.t 25), (.t 26)])), 
  (.mk (some 28) (some (24, false)) (.pure (.bin .gtr (.t 27) (.c (.i .i64 1))))), 
  (.mk (some 29) none (.pure (.pick (.t 24) (.c (.b true)) (.t 28))))]) (.cond (.t 29) (.seq (.ops [
  (.mk (some 4) none (.pure (.mv (.c .nsl)))), 
  (.mk (some 5) none (.pure (.mv (.c (.i .i64 2)))))]) .ret) .skip)) (.seq (.ops [
  (.mk (some 30) none (.pure (.mv (.t 0)))), 
  (.mk (some 31) none (.mk 32 1 24 [.nsl] (.t 30) (.t 30))), 
  (.mk (some 6) none (.pure (.mv (.t 31))))]) (.seq (.seq (.ops [
  (.mk (some 32) none (.pure (.mv (.t 6)))), 
  (.mk (some 33) none (.pure (.len false (.t 32)))), 
  (.mk (some 34) none (.pure (.mv (.c (.i .i64 0)))))]) (.block 0 (.loop (.seq (.ops [
  (.mk (some 35) none (.pure (.bin .lss (.t 34) (.t 33))))]) (.seq (.cond (.t 35) .skip (.exit 0)) (.seq (.block 1 (.seq (.ops [
  (.mk (some 36) none (.pure (.mv (.t 34)))), 
  (.mk (some 7) none (.pure (.mv (.t 36))))]) (.seq (.ops [
  (.mk (some 37) none (.pure (.mv (.t 6)))), 
  (.mk (some 38) none (.pure (.mv (.t 7)))), 
  (.mk (some 39) none (.pure (.mv (.t 0)))), 
  (.mk (some 40) none (.mk 3 1 8 [(.i .i64 0)] (.t 39) (.t 39))), 
  (.mk (some 41) none (.pure (.ixS 1 (.t 37) (.t 38)))), 
  (.mk none none (.st 1 (.t 41) (.t 40)))]) (.seq (.ops [
  (.mk (some 42) none (.pure (.mv (.t 6)))), 
  (.mk (some 43) none (.pure (.mv (.t 7)))), 
  (.mk (some 44) none (.pure (.ixS 1 (.t 42) (.t 43)))), 
  (.mk (some 45) none (.ld true 1 (.t 44))), 
  (.mk (some 46) none (.pure (.len false (.t 45)))), 
  (.mk (some 47) none (.pure (.mv (.c (.i .i64 0)))))]) (.block 2 (.loop (.seq (.ops [
  (.mk (some 48) none (.pure (.bin .lss (.t 47) (.t 46))))]) (.seq (.cond (.t 48) .skip (.exit 2)) (.seq (.block 3 (.seq (.ops [
  (.mk (some 49) none (.pure (.mv (.t 47)))), 
  (.mk (some 8) none (.pure (.mv (.t 49))))]) (.ops [
  (.mk (some 50) none (.pure (.mv (.t 6)))), 
  (.mk (some 51) none (.pure (.mv (.t 7)))), 
  (.mk (some 52) none (.pure (.ixS 1 (.t 50) (.t 51)))), 
  (.mk (some 54) none (.pure (.mv (.t 8)))), 
  (.mk (some 55) none (.pure (.mv (.t 7)))), 
  (.mk (some 56) none (.pure (.mv (.t 1)))), 
  (.mk (some 57) none (.pure (.bin .mul (.t 55) (.t 56)))), 
  (.mk (some 58) none (.pure (.mv (.t 8)))), 
  (.mk (some 59) none (.pure (.bin .add (.t 57) (.t 58)))), 
  (.mk (some 60) none (.pure (.mv (.t 0)))), 
  (.mk (some 61) none (.pure (.bin .rem (.t 59) (.t 60)))), 
  (.mk (some 53) none (.ld true 1 (.t 52))), 
  (.mk (some 62) none (.pure (.ixS 1 (.t 53) (.t 54)))), 
  (.mk none none (.st 1 (.t 62) (.t 61)))]))) (.ops [
  (.mk (some 63) none (.pure (.bin .add (.t 47) (.c (.i .i64 1))))), 
  (.mk (some 47) none (.pure (.mv (.t 63))))])))))))))) (.ops [
  (.mk (some 64) none (.pure (.bin .add (.t 34) (.c (.i .i64 1))))), 
  (.mk (some 34) none (.pure (.mv (.t 64))))]))))))) (.seq (.ops [
  (.mk (some 65) none (.pure (.mv (.t 6)))), 
  (.mk (some 4) none (.pure (.mv (.t 65)))), 
  (.mk (some 5) none (.pure (.mv (.c (.i .i64 0)))))]) .ret))))))
def fn47 : AFn := (AFn.mk 17 [(.t 2)] (.seq (.ops [
  (.mk (some 2) none (.pure (.mv (.c (.b false)))))]) (.seq (.seq (.ops [
  (.mk (some 6) none (.pure (.mv (.t 0)))), 
  (.mk (some 7) none (.call 55 [(.t 6)])), 
  (.mk (some 8) none (.pure (.not (.t 7))))]) (.cond (.t 8) (.seq (.ops [
  (.mk (some 2) none (.pure (.mv (.c (.b false)))))]) .ret) .skip)) (.seq (.ops [
  (.mk (some 10) none (.pure (.mv (.t 0)))), 
  (.mk (some 11) none (.call 56 [(.t 10)])), 
  (.mk (some 9) none (.pure (.mv (.t 11)))), 
  (.mk (some 12) none (.pure (.ext 0 (.t 9)))), 
  (.mk (some 13) none (.pure (.ext 1 (.t 9)))), 
  (.mk (some 14) none (.pure (.ext 2 (.t 9)))), 
  (.mk (some 3) none (.pure (.mv (.t 12)))), 
  (.mk (some 4) none (.pure (.mv (.t 13)))), 
  (.mk (some 5) none (.pure (.mv (.t 14))))]) (.seq (.ops [
  (.mk (some 15) none (.pure (.mv (.t 5)))), 
  (.mk (some 16) none (.pure (.not (.t 15)))), 
  (.mk (some 2) none (.pure (.mv (.t 16))))]) .ret)))))
def fn48 : AFn := (AFn.mk 28 [(.t 2)] (.seq (.ops [
  (.mk (some 2) none (.pure (.mv (.c (.b false)))))]) (.seq (.seq (.ops [
  (.mk (some 5) none (.pure (.mv (.t 0)))), 
  (.mk (some 6) none (.call 47 [(.t 5)])), 
  (.mk (some 7) none (.pure (.not (.t 6))))]) (.cond (.t 7) (.seq (.ops [
  (.mk (some 2) none (.pure (.mv (.c (.b false)))))]) .ret) .skip)) (.seq (.seq (.ops [
  (.mk (some 3) none (.pure (.mv (.c (.i .i64 0)))))]) (.block 0 (.loop (.seq (.seq (.ops [
  (.mk (some 8) none (.pure (.mv (.t 3)))), 
  (.mk (some 9) none (.pure (.mv (.t 0)))), 
  (.mk (some 10) none (.pure (.len false (.t 9)))), 
  (.mk (some 11) none (.pure (.bin .lss (.t 8) (.t 10))))]) (.cond (.t 11) .skip (.exit 0))) (.seq (.block 1 (.seq (.ops [
  (.mk (some 4) none (.pure (.mv (.c (.i .i64 0)))))]) (.block 2 (.loop (.seq (.seq (.ops [
  (.mk (some 14) none (.pure (.mv (.t 4)))), 
  (.mk (some 15) none (.pure (.mv (.t 0)))), 
  (.mk (some 16) none (.pure (.len false (.t 15)))), 
  (.mk (some 17) none (.pure (.bin .lss (.t 14) (.t 16))))]) (.cond (.t 17) .skip (.exit 2))) (.seq (.block 3 (.seq (.ops [
  (.mk (some 20) none (.pure (.mv (.t 0)))), 
  (.mk (some 21) none (.pure (.mv (.t 3)))), 
  (.mk (some 22) none (.pure (.ixS 1 (.t 20) (.t 21)))), 
  (.mk (some 23) none (.ld true 1 (.t 22))), 
  (.mk (some 24) none (.pure (.mv (.t 4)))), 
  (.mk (some 25) none (.pure (.ixS 1 (.t 23) (.t 24)))), 
  (.mk (some 26) none (.ld true 1 (.t 25))), 
  (.mk (some 27) none (.pure (.bin .lss (.t 26) (.c (.i .i64 0)))))]) (.cond (.t 27) (.seq (.ops [
  (.mk (some 2) none (.pure (.mv (.c (.b false)))))]) .ret) .skip))) (.ops [
  (.mk (some 18) none (.pure (.mv (.t 4)))), 
  (.mk (some 19) none (.pure (.bin .add (.t 18) (.c (.i .i64 1))))), 
  (.mk (some 4) none (.pure (.mv (.t 19))))]))))))) (.ops [
  (.mk (some 12) none (.pure (.mv (.t 3)))), 
  (.mk (some 13) none (.pure (.bin .add (.t 12) (.c (.i .i64 1))))), 
  (.mk (some 3) none (.pure (.mv (.t 13))))])))))) (.seq (.ops [
  (.mk (some 2) none (.pure (.mv (.c (.b true)))))]) .ret)))))
def fn49 : AFn := (AFn.mk 19 [(.t 6)] (.seq (.ops [
  (.mk (some 6) none (.pure (.mv (.c (.b false)))))]) (.seq (.ops [
  (.mk (some 8) none (.pure (.mv (.t 0)))), 
  (.mk (some 9) none (.pure (.len false (.t 8)))), 
  (.mk (some 7) none (.pure (.mv (.t 9))))]) (.seq (.seq (.ops [
  (.mk (some 10) none (.pure (.mv (.t 2)))), 
  (.mk (some 11) none (.pure (.mv (.t 7)))), 
  (.mk (some 12) none (.pure (.bin .eql (.t 10) (.t 11))))]) (.cond (.t 12) (.seq (.ops [
  (.mk (some 6) none (.pure (.mv (.c (.b true)))))]) .ret) .skip)) (.seq (.ops [
  (.mk (some 13) none (.pure (.mv (.t 0)))), 
  (.mk (some 14) none (.pure (.mv (.t 1)))), 
  (.mk (some 15) none (.pure (.mv (.t 2)))), 
  (.mk (some 16) none (.pure (.mv (.t 2)))), 
  (.mk (some 17) none (.bsl 3 1 [(.i .i64 0)] 1 [((0, 1), (.t 16))])), 
  (.mk (some 18) none (.call 82 [(.t 13), (.t 14), (.t 15), (.t 17)])), 
  (.mk (some 6) none (.pure (.mv (.t 18))))]) .ret)))))
def fn51 : AFn := (AFn.mk 41 [(.t 2)] (.seq (.ops [
  (.mk (some 2) none (.pure (.mv (.c (.b false)))))]) (.seq (.ops [
  (.mk (some 8) none (.pure (.mv (.t 0)))), 
  (.mk (some 9) none (.pure (.len false (.t 8)))), 
  (.mk (some 3) none (.pure (.mv (.t 9))))]) (.seq (.seq (.ops [
  (.mk (some 10) none (.pure (.mv (.t 3)))), 
  (.mk (some 11) none (.pure (.bin .lss (.t 10) (.c (.i .i64 1))))), 
  (.mk (some 12) none (.pure (.mv (.t 11)))), 
  (.mk (some 13) (some (12, false)) (.pure (.mv (.t 3)))), 
  (.mk (some 14) (some (12, false)) (.pure (.bin .gtr (.t 13) (.c (.i .i64 7))))), 
  (.mk (some 15) none (.pure (.pick (.t 12) (.c (.b true)) (.t 14))))]) (.cond (.t 15) (.seq (.ops [
  (.mk (some 2) none (.pure (.mv (.c (.b false)))))]) .ret) .skip)) (.seq (.seq (.ops [
  (.mk (some 16) none (.pure (.mv (.t 0)))), 
  (.mk (some 17) none (.pure (.len false (.t 16)))), 
  (.mk (some 18) none (.pure (.mv (.c (.i .i64 0)))))]) (.block 0 (.loop (.seq (.ops [
  (.mk (some 19) none (.pure (.bin .lss (.t 18) (.t 17))))]) (.seq (.cond (.t 19) .skip (.exit 0)) (.seq (.block 1 (.seq (.ops [
  (.mk (some 20) none (.pure (.ixS 1 (.t 16) (.t 18)))), 
  (.mk (some 21) none (.ld true 1 (.t 20))), 
  (.mk (some 5) none (.pure (.mv (.t 21))))]) (.seq (.seq (.ops [
  (.mk (some 22) none (.pure (.mv (.t 5)))), 
  (.mk (some 23) none (.pure (.len false (.t 22)))), 
  (.mk (some 24) none (.pure (.mv (.t 3)))), 
  (.mk (some 25) none (.pure (.bin .neq (.t 23) (.t 24))))]) (.cond (.t 25) (.seq (.ops [
  (.mk (some 2) none (.pure (.mv (.c (.b false)))))]) .ret) .skip)) (.seq (.ops [
  (.mk (some 26) none (.pure (.mv (.t 5)))), 
  (.mk (some 27) none (.pure (.len false (.t 26)))), 
  (.mk (some 28) none (.pure (.mv (.c (.i .i64 0)))))]) (.block 2 (.loop (.seq (.ops [
  (.mk (some 29) none (.pure (.bin .lss (.t 28) (.t 27))))]) (.seq (.cond (.t 29) .skip (.exit 2)) (.seq (.block 3 (.seq (.ops [
  (.mk (some 30) none (.pure (.ixS 1 (.t 26) (.t 28)))), 
  (.mk (some 31) none (.ld true 1 (.t 30))), 
  (.mk (some 7) none (.pure (.mv (.t 31))))]) (.seq (.ops [
  (.mk (some 32) none (.pure (.mv (.t 7)))), 
  (.mk (some 33) none (.pure (.bin .lss (.t 32) (.c (.i .i64 (-1)))))), 
  (.mk (some 34) none (.pure (.mv (.t 33)))), 
  (.mk (some 35) (some (34, false)) (.pure (.mv (.t 7)))), 
  (.mk (some 36) (some (34, false)) (.pure (.mv (.t 3)))), 
  (.mk (some 37) (some (34, false)) (.pure (.bin .geq (.t 35) (.t 36)))), 
  (.mk (some 38) none (.pure (.pick (.t 34) (.c (.b true)) (.t 37))))]) (.cond (.t 38) (.seq (.ops [
  (.mk (some 2) none (.pure (.mv (.c (.b false)))))]) .ret) .skip)))) (.ops [
  (.mk (some 39) none (.pure (.bin .add (.t 28) (.c (.i .i64 1))))), 
  (.mk (some 28) none (.pure (.mv (.t 39))))])))))))))) (.ops [
  (.mk (some 40) none (.pure (.bin .add (.t 18) (.c (.i .i64 1))))), 
  (.mk (some 18) none (.pure (.mv (.t 40))))]))))))) (.seq (.ops [
  (.mk (some 2) none (.pure (.mv (.c (.b true)))))]) .ret))))))
def fn52 : AFn := (AFn.mk 27 [(.t 2)] (.seq (.ops [
  (.mk (some 2) none (.pure (.mv (.c (.p none)))))]) (.seq (.ops [
  (.mk (some 6) none (.pure (.mv (.t 0)))), 
  (.mk (some 7) none (.pure (.build [(.i .i64 0), (.i .i64 0), (.i .i64 0), (.i .i64 0), (.i .i64 0), (.i .i64 0), (.i .i64 0), (.i .i64 0), (.i .i64 0), (.i .i64 0), (.i .i64 0), (.i .i64 0), (.i .i64 0), (.i .i64 0), (.i .i64 0), (.i .i64 0), (.i .i64 0), (.i .i64 0), (.i .i64 0), (.i .i64 0), (.i .i64 0), (.i .i64 0), (.i .i64 0), (.i .i64 0), (.i .i64 0), (.i .i64 0), (.i .i64 0), (.i .i64 0), (.i .i64 0), (.i .i64 0), (.i .i64 0), (.i .i64 0), (.i .i64 0), (.i .i64 0), (.i .i64 0), (.i .i64 0), (.i .i64 0), (.i .i64 0), (.i .i64 0), (.i .i64 0), (.i .i64 0), (.i .i64 0), (.i .i64 0), (.i .i64 0), (.i .i64 0), (.i .i64 0), (.i .i64 0), (.i .i64 0), (.i .i64 0), (.i .i64 0), (.i .u8 0), (.i .u8 0), (.i .u8 0), (.i .u8 0), (.i .u8 0), (.i .u8 0), (.i .u8 0), (.i .u8 0), (.i .u8 0), (.i .u8 0), (.i .u8 0), (.i .u8 0), (.i .u8 0), (.i .u8 0), (.i .u8 0), (.i .u8 0), (.i .u8 0), (.i .u8 0), (.i .u8 0), (.i .u8 0), (.i .u8 0), (.i .u8 0), (.i .u8 0), (.i .u8 0), (.i .u8 0), (.i .u8 0), (.i .u8 0), (.i .u8 0), (.i .u8 0), (.i .u8 0), (.i .u8 0), (.i .u8 0), (.i .u8 0), (.i .u8 0), (.i .u8 0), (.i .u8 0), (.i .u8 0), (.i .u8 0), (.i .u8 0), (.i .u8 0), (.i .u8 0), (.i .u8 0), (.i .u8 0), (.i .u8 0), (.i .u8 0), (.i .u8 0), (.i .u8 0), (.i .u8 0), (.i .u8 0), (.i .u8 0), (.i .u8 0), (.i .u8 0), (.i .u8 0), (.i .u8 0), (.i .u8 0), (.i .u8 0), (.i .u8 0), (.i .u8 0), (.i .u8 0), (.i .u8 0), (.i .u8 0), (.i .u8 0), (.i .u8 0)] [((0, 1), (.t 6))]))), 
  (.mk (some 8) none (.bx 75 113 (.t 7))), 
  (.mk (some 3) none (.pure (.mv (.t 8))))]) (.seq (.seq (.ops [
  (.mk (some 9) none (.pure (.mv (.t 0)))), 
  (.mk (some 10) none (.pure (.mv (.c (.i .i64 0)))))]) (.block 0 (.loop (.seq (.ops [
  (.mk (some 11) none (.pure (.bin .lss (.t 10) (.t 9))))]) (.seq (.cond (.t 11) .skip (.exit 0)) (.seq (.block 1 (.seq (.ops [
  (.mk (some 12) none (.pure (.mv (.t 10)))), 
  (.mk (some 4) none (.pure (.mv (.t 12))))]) (.seq (.ops [
  (.mk (some 13) none (.pure (.mv (.t 0)))), 
  (.mk (some 14) none (.pure (.mv (.c (.i .i64 0)))))]) (.block 2 (.loop (.seq (.ops [
  (.mk (some 15) none (.pure (.bin .lss (.t 14) (.t 13))))]) (.seq (.cond (.t 15) .skip (.exit 2)) (.seq (.block 3 (.seq (.ops [
  (.mk (some 16) none (.pure (.mv (.t 14)))), 
  (.mk (some 5) none (.pure (.mv (.t 16))))]) (.ops [
  (.mk (some 17) none (.pure (.mv (.t 3)))), 
  (.mk (some 18) none (.pure (.mv (.t 4)))), 
  (.mk (some 19) none (.pure (.mv (.t 5)))), 
  (.mk (some 20) none (.pure (.nilck (.t 17)))), 
  (.mk (some 21) none (.pure (.faddr 1 (.t 20)))), 
  (.mk (some 22) none (.pure (.ixA 7 7 (.t 21) (.t 18)))), 
  (.mk (some 23) none (.pure (.ixA 7 1 (.t 22) (.t 19)))), 
  (.mk none none (.st 1 (.t 23) (.c (.i .i64 (-1)))))]))) (.ops [
  (.mk (some 24) none (.pure (.bin .add (.t 14) (.c (.i .i64 1))))), 
  (.mk (some 14) none (.pure (.mv (.t 24))))]))))))))) (.ops [
  (.mk (some 25) none (.pure (.bin .add (.t 10) (.c (.i .i64 1))))), 
  (.mk (some 10) none (.pure (.mv (.t 25))))]))))))) (.seq (.ops [
  (.mk (some 26) none (.pure (.mv (.t 3)))), 
  (.mk (some 2) none (.pure (.mv (.t 26))))]) .ret)))))
def fn53 : AFn := (AFn.mk 46 [(.t 4)] (.seq (.ops [
  (.mk (some 3) none (.bx 59 4 (.t 1))), 
  (.mk (some 4) none (.pure (.mv (.c (.i .u8 0)))))]) (.seq (.ops [
  (.mk (some 7) none (.pure (.faddr 0 (.t 3)))), 
  (.mk (some 8) none (.ld true 1 (.t 7))), 
  (.mk (some 9) none (.pure (.bin .sub (.c (.i .i64 3)) (.t 8)))), 
  (.mk (some 10) none (.pure (.faddr 2 (.t 3)))), 
  (.mk (some 11) none (.ld true 1 (.t 10))), 
  (.mk (some 12) none (.pure (.bin .sub (.t 9) (.t 11)))), 
  (.mk (some 5) none (.pure (.mv (.t 12))))]) (.seq (.ops [
  (.mk (some 13) none (.pure (.mv (.t 0)))), 
  (.mk (some 14) none (.pure (.nilck (.t 13)))), 
  (.mk (some 15) none (.pure (.faddr 0 (.t 14)))), 
  (.mk (some 16) none (.ld true 1 (.t 15))), 
  (.mk (some 17) none (.pure (.bin .shl (.c (.i .u8 1)) (.t 16)))), 
  (.mk (some 18) none (.pure (.bin .sub (.t 17) (.c (.i .u8 1))))), 
  (.mk (some 6) none (.pure (.mv (.t 18))))]) (.seq (.any [(
  (.mk (some 19) none (.pure (.mv (.t 6)))), false), (
  (.mk (some 20) none (.pure (.mv (.t 0)))), false), (
  (.mk (some 21) none (.pure (.faddr 0 (.t 3)))), false), (
  (.mk (some 22) none (.ld true 1 (.t 21))), false), (
  (.mk (some 23) none (.pure (.mv (.t 5)))), false), (
  (.mk (some 24) none (.pure (.faddr 1 (.t 3)))), false), (
  (.mk (some 25) none (.ld true 1 (.t 24))), false), (
  (.mk (some 26) none (.pure (.nilck (.t 20)))), false), (
  (.mk (some 27) none (.pure (.faddr 50 (.t 26)))), false), (
  (.mk (some 28) none (.pure (.ixA 3 21 (.t 27) (.t 22)))), false), (
  (.mk (some 29) none (.pure (.ixA 3 7 (.t 28) (.t 23)))), false), (
  (.mk (some 30) none (.pure (.ixA 7 1 (.t 29) (.t 25)))), false), (
  (.mk (some 31) none (.ld true 1 (.t 30))), false), (
  (.mk (some 32) none (.pure (.mv (.t 0)))), false), (
  (.mk (some 33) none (.pure (.faddr 2 (.t 3)))), false), (
  (.mk (some 34) none (.ld true 1 (.t 33))), false), (
  (.mk (some 35) none (.pure (.mv (.t 5)))), false), (
  (.mk (some 36) none (.pure (.faddr 3 (.t 3)))), false), (
  (.mk (some 37) none (.ld true 1 (.t 36))), false), (
  (.mk (some 38) none (.pure (.nilck (.t 32)))), false), (
  (.mk (some 39) none (.pure (.faddr 50 (.t 38)))), false), (
  (.mk (some 40) none (.pure (.ixA 3 21 (.t 39) (.t 34)))), false), (
  (.mk (some 41) none (.pure (.ixA 3 7 (.t 40) (.t 35)))), false), (
  (.mk (some 42) none (.pure (.ixA 7 1 (.t 41) (.t 37)))), false), (
  (.mk (some 43) none (.ld true 1 (.t 42))), false), (
  (.mk (some 44) none (.pure (.bin .or (.t 31) (.t 43)))), false), (
  (.mk (some 45) none (.pure (.bin .andNot (.t 19) (.t 44)))), false), (
  (.mk (some 4) none (.pure (.mv (.t 45)))), false)]) .ret)))))
def fn54 : AFn := (AFn.mk 47 [] (.seq (.ops [
  (.mk (some 3) none (.bx 62 3 (.t 1)))]) (.seq (.any [(
  (.mk (some 6) none (.pure (.mv (.t 0)))), false), (
  (.mk (some 7) none (.pure (.ixA 3 1 (.t 3) (.c (.i .i64 0))))), false), (
  (.mk (some 8) none (.ld true 1 (.t 7))), false), (
  (.mk (some 9) none (.pure (.ixA 3 1 (.t 3) (.c (.i .i64 1))))), false), (
  (.mk (some 10) none (.ld true 1 (.t 9))), false), (
  (.mk (some 11) none (.pure (.ixA 3 1 (.t 3) (.c (.i .i64 2))))), false), (
  (.mk (some 12) none (.ld true 1 (.t 11))), false), (
  (.mk (some 13) none (.pure (.nilck (.t 6)))), false), (
  (.mk (some 14) none (.pure (.faddr 1 (.t 13)))), false), (
  (.mk (some 15) none (.pure (.ixA 7 7 (.t 14) (.t 8)))), false), (
  (.mk (some 16) none (.pure (.ixA 7 1 (.t 15) (.t 10)))), false), (
  (.mk none none (.st 1 (.t 16) (.t 12))), false)]) (.seq (.ops [
  (.mk (some 17) none (.pure (.mv (.c (.i .i64 0)))))]) (.block 0 (.loop (.seq (.ops [
  (.mk (some 18) none (.pure (.bin .lss (.t 17) (.c (.i .i64 3)))))]) (.seq (.cond (.t 18) .skip (.exit 0)) (.seq (.block 1 (.seq (.ops [
  (.mk (some 19) none (.pure (.mv (.t 17)))), 
  (.mk (some 4) none (.pure (.mv (.t 19))))]) (.seq (.ops [
  (.mk (some 20) none (.pure (.mv (.c (.i .i64 0)))))]) (.block 2 (.loop (.seq (.ops [
  (.mk (some 21) none (.pure (.bin .lss (.t 20) (.c (.i .i64 3)))))]) (.seq (.cond (.t 21) .skip (.exit 2)) (.seq (.block 3 (.seq (.ops [
  (.mk (some 22) none (.pure (.mv (.t 20)))), 
  (.mk (some 5) none (.pure (.mv (.t 22))))]) (.any [(
  (.mk (some 23) none (.pure (.mv (.t 0)))), false), (
  (.mk (some 24) none (.pure (.mv (.t 4)))), false), (
  (.mk (some 25) none (.pure (.mv (.t 5)))), false), (
  (.mk (some 26) none (.pure (.mv (.t 4)))), false), (
  (.mk (some 27) none (.pure (.ixA 3 1 (.t 3) (.t 26)))), false), (
  (.mk (some 28) none (.ld true 1 (.t 27))), false), (
  (.mk (some 29) none (.pure (.nilck (.t 23)))), false), (
  (.mk (some 30) none (.pure (.faddr 50 (.t 29)))), false), (
  (.mk (some 31) none (.pure (.ixA 3 21 (.t 30) (.t 24)))), false), (
  (.mk (some 32) none (.pure (.ixA 3 7 (.t 31) (.t 25)))), false), (
  (.mk (some 33) none (.pure (.ixA 7 1 (.t 32) (.t 28)))), false), (
  (.mk (some 34) none (.ld true 1 (.t 33))), false), (
  (.mk (some 35) none (.pure (.mv (.t 5)))), false), (
  (.mk (some 36) none (.pure (.ixA 3 1 (.t 3) (.t 35)))), false), (
  (.mk (some 37) none (.ld true 1 (.t 36))), false), (
  (.mk (some 38) none (.pure (.bin .shl (.c (.i .u8 1)) (.t 37)))), false), (
  (.mk (some 39) none (.pure (.bin .or (.t 34) (.t 38)))), false), (
  (.mk (some 40) none (.pure (.nilck (.t 23)))), false), (
  (.mk (some 41) none (.pure (.faddr 50 (.t 40)))), false), (
  (.mk (some 42) none (.pure (.ixA 3 21 (.t 41) (.t 24)))), false), (
  (.mk (some 43) none (.pure (.ixA 3 7 (.t 42) (.t 25)))), false), (
  (.mk (some 44) none (.pure (.ixA 7 1 (.t 43) (.t 28)))), false), (
  (.mk none none (.st 1 (.t 44) (.t 39))), false)]))) (.ops [
  (.mk (some 45) none (.pure (.bin .add (.t 20) (.c (.i .i64 1))))), 
  (.mk (some 20) none (.pure (.mv (.t 45))))]))))))))) (.ops [
  (.mk (some 46) none (.pure (.bin .add (.t 17) (.c (.i .i64 1))))), 
  (.mk (some 17) none (.pure (.mv (.t 46))))]))))))))))
def fn55 : AFn := (AFn.mk 50 [(.t 2)] (.seq (.ops [
  (.mk (some 2) none (.pure (.mv (.c (.b false)))))]) (.seq (.ops [
  (.mk (some 6) none (.pure (.mv (.t 0)))), 
  (.mk (some 7) none (.pure (.len false (.t 6)))), 
  (.mk (some 3) none (.pure (.mv (.t 7))))]) (.seq (.seq (.ops [
  (.mk (some 8) none (.pure (.mv (.t 3)))), 
  (.mk (some 9) none (.pure (.bin .lss (.t 8) (.c (.i .i64 1))))), 
  (.mk (some 10) none (.pure (.mv (.t 9)))), 
  (.mk (some 11) (some (10, false)) (.pure (.mv (.t 3)))), 
  (.mk (some 12) (some (10, false)) (.pure (.bin .gtr (.t 11) (.c (.i .i64 7))))), 
  (.mk (some 13) none (.pure (.pick (.t 10) (.c (.b true)) (.t 12))))]) (.cond (.t 13) (.seq (.ops [
  (.mk (some 2) none (.pure (.mv (.c (.b false)))))]) .ret) .skip)) (.seq (.seq (.ops [
  (.mk (some 4) none (.pure (.mv (.c (.i .i64 0)))))]) (.block 0 (.loop (.seq (.seq (.ops [
  (.mk (some 14) none (.pure (.mv (.t 4)))), 
  (.mk (some 15) none (.pure (.mv (.t 3)))), 
  (.mk (some 16) none (.pure (.bin .lss (.t 14) (.t 15))))]) (.cond (.t 16) .skip (.exit 0))) (.seq (.block 1 (.seq (.seq (.ops [
  (.mk (some 19) none (.pure (.mv (.t 0)))), 
  (.mk (some 20) none (.pure (.mv (.t 4)))), 
  (.mk (some 21) none (.pure (.ixS 1 (.t 19) (.t 20)))), 
  (.mk (some 22) none (.ld true 1 (.t 21))), 
  (.mk (some 23) none (.pure (.len false (.t 22)))), 
  (.mk (some 24) none (.pure (.mv (.t 3)))), 
  (.mk (some 25) none (.pure (.bin .neq (.t 23) (.t 24))))]) (.cond (.t 25) (.seq (.ops [
  (.mk (some 2) none (.pure (.mv (.c (.b false)))))]) .ret) .skip)) (.seq (.ops [
  (.mk (some 5) none (.pure (.mv (.c (.i .i64 0)))))]) (.block 2 (.loop (.seq (.seq (.ops [
  (.mk (some 26) none (.pure (.mv (.t 5)))), 
  (.mk (some 27) none (.pure (.mv (.t 3)))), 
  (.mk (some 28) none (.pure (.bin .lss (.t 26) (.t 27))))]) (.cond (.t 28) .skip (.exit 2))) (.seq (.block 3 (.seq (.ops [
  (.mk (some 31) none (.pure (.mv (.t 0)))), 
  (.mk (some 32) none (.pure (.mv (.t 4)))), 
  (.mk (some 33) none (.pure (.ixS 1 (.t 31) (.t 32)))), 
  (.mk (some 34) none (.ld true 1 (.t 33))), 
  (.mk (some 35) none (.pure (.mv (.t 5)))), 
  (.mk (some 36) none (.pure (.ixS 1 (.t 34) (.t 35)))), 
  (.mk (some 37) none (.ld true 1 (.t 36))), 
  (.mk (some 38) none (.pure (.bin .lss (.t 37) (.c (.i .i64 (-1)))))), 
  (.mk (some 39) none (.pure (.mv (.t 38)))), 
  (.mk (some 40) (some (39, false)) (.pure (.mv (.t 0)))), 
  (.mk (some 41) (some (39, false)) (.pure (.mv (.t 4)))), 
  (.mk (some 42) (some (39, false)) (.pure (.ixS 1 (.t 40) (.t 41)))), 
  (.mk (some 43) (some (39, false)) (.ld true 1 (.t 42))), 
  (.mk (some 44) (some (39, false)) (.pure (.mv (.t 5)))), 
  (.mk (some 45) (some (39, false)) (.pure (.ixS 1 (.t 43) (.t 44)))), 
  (.mk (some 46) (some (39, false)) (.ld true 1 (.t 45))), 
  (.mk (some 47) (some (39, false)) (.pure (.mv (.t 3)))), 
  (.mk (some 48) (some (39, false)) (.pure (.bin .geq (.t 46) (.t 47)))), 
  (.mk (some 49) none (.pure (.pick (.t 39) (.c (.b true)) (.t 48))))]) (.cond (.t 49) (.seq (.ops [
  (.mk (some 2) none (.pure (.mv (.c (.b false)))))]) .ret) .skip))) (.ops [
  (.mk (some 29) none (.pure (.mv (.t 5)))), 
  (.mk (some 30) none (.pure (.bin .add (.t 29) (.c (.i .i64 1))))), 
  (.mk (some 5) none (.pure (.mv (.t 30))))])))))))) (.ops [
  (.mk (some 17) none (.pure (.mv (.t 4)))), 
  (.mk (some 18) none (.pure (.bin .add (.t 17) (.c (.i .i64 1))))), 
  (.mk (some 4) none (.pure (.mv (.t 18))))])))))) (.seq (.ops [
  (.mk (some 2) none (.pure (.mv (.c (.b true)))))]) .ret))))))
def fn56 : AFn := (AFn.mk 72 [(.t 2), (.t 3), (.t 4)] (.seq (.ops [
  (.mk (some 2) none (.pure (.mv (.c (.i .i64 0))))), 
  (.mk (some 3) none (.pure (.mv (.c (.i .i64 0))))), 
  (.mk (some 4) none (.pure (.mv (.c (.b false)))))]) (.seq (.seq (.ops [
  (.mk (some 5) none (.pure (.mv (.c (.i .i64 0)))))]) (.block 0 (.loop (.seq (.seq (.ops [
  (.mk (some 10) none (.pure (.mv (.t 5)))), 
  (.mk (some 11) none (.pure (.mv (.t 0)))), 
  (.mk (some 12) none (.pure (.len false (.t 11)))), 
  (.mk (some 13) none (.pure (.bin .lss (.t 10) (.t 12))))]) (.cond (.t 13) .skip (.exit 0))) (.seq (.block 1 (.seq (.ops [
  (.mk (some 6) none (.pure (.mv (.c (.i .i64 0)))))]) (.block 2 (.loop (.seq (.seq (.ops [
  (.mk (some 16) none (.pure (.mv (.t 6)))), 
  (.mk (some 17) none (.pure (.mv (.t 0)))), 
  (.mk (some 18) none (.pure (.mv (.t 5)))), 
  (.mk (some 19) none (.pure (.ixS 1 (.t 17) (.t 18)))), 
  (.mk (some 20) none (.ld true 1 (.t 19))), 
  (.mk (some 21) none (.pure (.len false (.t 20)))), 
  (.mk (some 22) none (.pure (.bin .lss (.t 16) (.t 21))))]) (.cond (.t 22) .skip (.exit 2))) (.seq (.block 3 (.seq (.ops [
  (.mk (some 25) none (.pure (.mv (.t 0)))), 
  (.mk (some 26) none (.pure (.mv (.t 5)))), 
  (.mk (some 27) none (.pure (.ixS 1 (.t 25) (.t 26)))), 
  (.mk (some 28) none (.ld true 1 (.t 27))), 
  (.mk (some 29) none (.pure (.mv (.t 6)))), 
  (.mk (some 30) none (.pure (.ixS 1 (.t 28) (.t 29)))), 
  (.mk (some 31) none (.ld true 1 (.t 30))), 
  (.mk (some 7) none (.pure (.mv (.t 31))))]) (.seq (.seq (.ops [
  (.mk (some 8) none (.pure (.mv (.c (.i .i64 0)))))]) (.block 4 (.loop (.seq (.seq (.ops [
  (.mk (some 32) none (.pure (.mv (.t 8)))), 
  (.mk (some 33) none (.pure (.mv (.t 6)))), 
  (.mk (some 34) none (.pure (.bin .lss (.t 32) (.t 33)))), 
  (.mk (some 35) none (.pure (.mv (.t 34)))), 
  (.mk (some 36) (some (35, true)) (.pure (.mv (.t 7)))), 
  (.mk (some 37) (some (35, true)) (.pure (.bin .geq (.t 36) (.c (.i .i64 0))))), 
  (.mk (some 38) none (.pure (.pick (.t 35) (.t 37) (.c (.b false)))))]) (.cond (.t 38) .skip (.exit 4))) (.seq (.block 5 (.seq (.ops [
  (.mk (some 41) none (.pure (.mv (.t 0)))), 
  (.mk (some 42) none (.pure (.mv (.t 5)))), 
  (.mk (some 43) none (.pure (.ixS 1 (.t 41) (.t 42)))), 
  (.mk (some 44) none (.ld true 1 (.t 43))), 
  (.mk (some 45) none (.pure (.mv (.t 8)))), 
  (.mk (some 46) none (.pure (.ixS 1 (.t 44) (.t 45)))), 
  (.mk (some 47) none (.ld true 1 (.t 46))), 
  (.mk (some 48) none (.pure (.mv (.t 7)))), 
  (.mk (some 49) none (.pure (.bin .eql (.t 47) (.t 48))))]) (.cond (.t 49) (.seq (.ops [
  (.mk (some 50) none (.pure (.mv (.t 5)))), 
  (.mk (some 51) none (.pure (.mv (.t 6)))), 
  (.mk (some 2) none (.pure (.mv (.t 50)))), 
  (.mk (some 3) none (.pure (.mv (.t 51)))), 
  (.mk (some 4) none (.pure (.mv (.c (.b true)))))]) .ret) .skip))) (.ops [
  (.mk (some 39) none (.pure (.mv (.t 8)))), 
  (.mk (some 40) none (.pure (.bin .add (.t 39) (.c (.i .i64 1))))), 
  (.mk (some 8) none (.pure (.mv (.t 40))))])))))) (.seq (.ops [
  (.mk (some 9) none (.pure (.mv (.c (.i .i64 0)))))]) (.block 6 (.loop (.seq (.seq (.ops [
  (.mk (some 52) none (.pure (.mv (.t 9)))), 
  (.mk (some 53) none (.pure (.mv (.t 5)))), 
  (.mk (some 54) none (.pure (.bin .lss (.t 52) (.t 53)))), 
  (.mk (some 55) none (.pure (.mv (.t 54)))), 
  (.mk (some 56) (some (55, true)) (.pure (.mv (.t 7)))), 
  (.mk (some 57) (some (55, true)) (.pure (.bin .geq (.t 56) (.c (.i .i64 0))))), 
  (.mk (some 58) none (.pure (.pick (.t 55) (.t 57) (.c (.b false)))))]) (.cond (.t 58) .skip (.exit 6))) (.seq (.block 7 (.seq (.ops [
  (.mk (some 61) none (.pure (.mv (.t 0)))), 
  (.mk (some 62) none (.pure (.mv (.t 9)))), 
  (.mk (some 63) none (.pure (.ixS 1 (.t 61) (.t 62)))), 
  (.mk (some 64) none (.ld true 1 (.t 63))), 
  (.mk (some 65) none (.pure (.mv (.t 6)))), 
  (.mk (some 66) none (.pure (.ixS 1 (.t 64) (.t 65)))), 
  (.mk (some 67) none (.ld true 1 (.t 66))), 
  (.mk (some 68) none (.pure (.mv (.t 7)))), 
  (.mk (some 69) none (.pure (.bin .eql (.t 67) (.t 68))))]) (.cond (.t 69) (.seq (.ops [
  (.mk (some 70) none (.pure (.mv (.t 5)))), 
  (.mk (some 71) none (.pure (.mv (.t 6)))), 
  (.mk (some 2) none (.pure (.mv (.t 70)))), 
  (.mk (some 3) none (.pure (.mv (.t 71)))), 
  (.mk (some 4) none (.pure (.mv (.c (.b true)))))]) .ret) .skip))) (.ops [
  (.mk (some 59) none (.pure (.mv (.t 9)))), 
  (.mk (some 60) none (.pure (.bin .add (.t 59) (.c (.i .i64 1))))), 
  (.mk (some 9) none (.pure (.mv (.t 60))))]))))))))) (.ops [
  (.mk (some 23) none (.pure (.mv (.t 6)))), 
  (.mk (some 24) none (.pure (.bin .add (.t 23) (.c (.i .i64 1))))), 
  (.mk (some 6) none (.pure (.mv (.t 24))))]))))))) (.ops [
  (.mk (some 14) none (.pure (.mv (.t 5)))), 
  (.mk (some 15) none (.pure (.bin .add (.t 14) (.c (.i .i64 1))))), 
  (.mk (some 5) none (.pure (.mv (.t 15))))])))))) (.seq (.ops [
  (.mk (some 2) none (.pure (.mv (.c (.i .i64 0))))), 
  (.mk (some 3) none (.pure (.mv (.c (.i .i64 0))))), 
  (.mk (some 4) none (.pure (.mv (.c (.b false)))))]) .ret))))
def fn59 : AFn := (AFn.mk 48 [(.t 2), (.t 3)] (.seq (.ops [
  (.mk (some 2) none (.pure (.mv (.c (.p none))))), 
  (.mk (some 3) none (.pure (.mv (.c (.i .i64 0)))))]) (.seq (.seq (.ops [
  (.mk (some 13) none (.pure (.mv (.t 0)))), 
  (.mk (some 14) none (.call 19 [(.t 13)])), 
  (.mk (some 12) none (.pure (.mv (.t 14)))), 
  (.mk (some 15) none (.pure (.ext 0 (.t 12)))), 
  (.mk (some 16) none (.pure (.ext 1 (.t 12)))), 
  (.mk (some 17) none (.pure (.ext 2 (.t 12)))), 
  (.mk (some 4) none (.pure (.mv (.t 15)))), 
  (.mk (some 5) none (.pure (.mv (.t 16)))), 
  (.mk (some 6) none (.pure (.mv (.t 17))))]) (.seq (.ops [
  (.mk (some 18) none (.pure (.mv (.t 6)))), 
  (.mk (some 19) none (.pure (.bin .neq (.t 18) (.c (.i .i64 10)))))]) (.cond (.t 19) (.seq (.ops [
  (.mk (some 2) none (.pure (.mv (.c (.p none))))), 
  (.mk (some 3) none (.pure (.mv (.c (.i .i64 2)))))]) .ret) .skip))) (.seq (.ops [
  (.mk (some 20) none (.pure (.mv (.t 0)))), 
  (.mk (some 21) none (.pure (.len false (.t 20)))), 
  (.mk (some 22) none (.call 52 [(.t 21)])), 
  (.mk (some 7) none (.pure (.mv (.t 22))))]) (.seq (.seq (.ops [
  (.mk (some 23) none (.pure (.mv (.t 0)))), 
  (.mk (some 24) none (.pure (.len false (.t 23)))), 
  (.mk (some 25) none (.pure (.mv (.c (.i .i64 0)))))]) (.block 0 (.loop (.seq (.ops [
  (.mk (some 26) none (.pure (.bin .lss (.t 25) (.t 24))))]) (.seq (.cond (.t 26) .skip (.exit 0)) (.seq (.block 1 (.seq (.ops [
  (.mk (some 27) none (.pure (.mv (.t 25)))), 
  (.mk (some 28) none (.pure (.ixS 1 (.t 23) (.t 25)))), 
  (.mk (some 29) none (.ld true 1 (.t 28))), 
  (.mk (some 8) none (.pure (.mv (.t 27)))), 
  (.mk (some 9) none (.pure (.mv (.t 29))))]) (.seq (.ops [
  (.mk (some 30) none (.pure (.mv (.t 9)))), 
  (.mk (some 31) none (.pure (.len false (.t 30)))), 
  (.mk (some 32) none (.pure (.mv (.c (.i .i64 0)))))]) (.block 2 (.loop (.seq (.ops [
  (.mk (some 33) none (.pure (.bin .lss (.t 32) (.t 31))))]) (.seq (.cond (.t 33) .skip (.exit 2)) (.seq (.block 3 (.seq (.ops [
  (.mk (some 34) none (.pure (.mv (.t 32)))), 
  (.mk (some 35) none (.pure (.ixS 1 (.t 30) (.t 32)))), 
  (.mk (some 36) none (.ld true 1 (.t 35))), 
  (.mk (some 10) none (.pure (.mv (.t 34)))), 
  (.mk (some 11) none (.pure (.mv (.t 36))))]) (.seq (.ops [
  (.mk (some 37) none (.pure (.mv (.t 11)))), 
  (.mk (some 38) none (.pure (.bin .neq (.t 37) (.c (.i .i64 (-1))))))]) (.cond (.t 38) (.ops [
  (.mk (some 39) none (.pure (.mv (.t 7)))), 
  (.mk (some 40) none (.pure (.mv (.t 8)))), 
  (.mk (some 41) none (.pure (.mv (.t 10)))), 
  (.mk (some 42) none (.pure (.mv (.t 11)))), 
  (.mk (some 43) none (.pure (.build [(.i .i64 0), (.i .i64 0), (.i .i64 0)] [((0, 1), (.t 40)), ((1, 1), (.t 41)), ((2, 1), (.t 42))]))), 
  (.mk (some 44) none (.call 54 [(.t 39), (.t 43)]))]) .skip)))) (.ops [
  (.mk (some 45) none (.pure (.bin .add (.t 32) (.c (.i .i64 1))))), 
  (.mk (some 32) none (.pure (.mv (.t 45))))]))))))))) (.ops [
  (.mk (some 46) none (.pure (.bin .add (.t 25) (.c (.i .i64 1))))), 
  (.mk (some 25) none (.pure (.mv (.t 46))))]))))))) (.seq (.ops [
  (.mk (some 47) none (.pure (.mv (.t 7)))), 
  (.mk (some 2) none (.pure (.mv (.t 47)))), 
  (.mk (some 3) none (.pure (.mv (.c (.i .i64 0)))))]) .ret))))))
def fn60 : AFn := (AFn.mk 35 [(.t 2)] (.seq (.ops [
  (.mk (some 2) none (.pure (.mv (.c (.b false)))))]) (.seq (.ops [
  (.mk (some 8) none (.pure (.mv (.t 0)))), 
  (.mk (some 9) none (.call 83 [(.t 8)])), 
  (.mk (some 7) none (.pure (.mv (.t 9)))), 
  (.mk (some 10) none (.pure (.ext 0 (.t 7)))), 
  (.mk (some 11) none (.pure (.ext 1 (.t 7)))), 
  (.mk (some 3) none (.al 59 [(.i .i64 0), (.i .i64 0), (.i .i64 0), (.i .i64 0)])), 
  (.mk none none (.st 4 (.t 3) (.t 10))), 
  (.mk (some 4) none (.pure (.mv (.t 11))))]) (.seq (.seq (.ops [
  (.mk (some 12) none (.pure (.mv (.t 4)))), 
  (.mk (some 13) none (.pure (.not (.t 12))))]) (.cond (.t 13) (.seq (.ops [
  (.mk (some 2) none (.pure (.mv (.c (.b true)))))]) .ret) .skip)) (.seq (.seq (.ops [
  (.mk (some 14) none (.pure (.mv (.t 0)))), 
  (.mk (some 15) none (.ld false 4 (.t 3))), 
  (.mk (some 16) none (.call 53 [(.t 14), (.t 15)])), 
  (.mk (some 5) none (.pure (.mv (.t 16))))]) (.block 0 (.loop (.seq (.seq (.ops [
  (.mk (some 17) none (.pure (.mv (.t 5)))), 
  (.mk (some 18) none (.pure (.bin .neq (.t 17) (.c (.i .u8 0)))))]) (.cond (.t 18) .skip (.exit 0))) (.seq (.block 1 (.seq (.any [(
  (.mk (some 23) none (.ld false 4 (.t 3))), false), (
  (.mk (some 24) none (.pure (.mv (.t 5)))), false), (
  (.mk (some 25) none (.call 85 [(.t 24)])), false), (
  (.mk (some 26) none (.call 84 [(.t 23), (.t 25)])), false), (
  (.mk (some 6) none (.al 62 [(.i .i64 0), (.i .i64 0), (.i .i64 0)])), false), (
  (.mk none none (.st 3 (.t 6) (.t 26))), false)]) (.seq (.ops [
  (.mk (some 27) none (.pure (.mv (.t 0)))), 
  (.mk (some 28) none (.ld false 3 (.t 6))), 
  (.mk (some 29) none (.call 54 [(.t 27), (.t 28)]))]) (.seq (.seq (.ops [
  (.mk (some 30) none (.pure (.mv (.t 0)))), 
  (.mk (some 31) none (.call 60 [(.t 30)]))]) (.cond (.t 31) (.seq (.ops [
  (.mk (some 2) none (.pure (.mv (.c (.b true)))))]) .ret) .skip)) (.ops [
  (.mk (some 32) none (.pure (.mv (.t 0)))), 
  (.mk (some 33) none (.ld false 3 (.t 6))), 
  (.mk (some 34) none (.call 86 [(.t 32), (.t 33)]))]))))) (.ops [
  (.mk (some 19) none (.pure (.mv (.t 5)))), 
  (.mk (some 20) none (.pure (.mv (.t 5)))), 
  (.mk (some 21) none (.pure (.bin .sub (.t 20) (.c (.i .u8 1))))), 
  (.mk (some 22) none (.pure (.bin .and (.t 19) (.t 21)))), 
  (.mk (some 5) none (.pure (.mv (.t 22))))])))))) (.seq (.ops [
  (.mk (some 2) none (.pure (.mv (.c (.b false)))))]) .ret))))))
def fn61 : AFn := (AFn.mk 53 [] (.seq (.ops [
  (.mk (some 12) none (.pure (.mv (.t 3)))), 
  (.mk (some 13) none (.pure (.mv (.t 1)))), 
  (.mk (some 14) none (.pure (.mv (.t 2)))), 
  (.mk (some 15) none (.pure (.nilck (.t 12)))), 
  (.mk (some 16) none (.pure (.faddr 1 (.t 15)))), 
  (.mk (some 17) none (.pure (.ixA 7 7 (.t 16) (.t 13)))), 
  (.mk (some 18) none (.pure (.ixA 7 1 (.t 17) (.t 14)))), 
  (.mk (some 19) none (.ld true 1 (.t 18))), 
  (.mk (some 8) none (.pure (.mv (.t 19))))]) (.seq (.ops [
  (.mk (some 20) none (.pure (.mv (.t 0)))), 
  (.mk (some 21) none (.pure (.mv (.t 1)))), 
  (.mk (some 22) none (.pure (.mv (.t 2)))), 
  (.mk (some 23) none (.pure (.build [(.i .i64 0), (.i .i64 0), (.i .i64 0), (.i .i64 0)] [((0, 1), (.c (.i .i64 0))), ((1, 1), (.t 21)), ((2, 1), (.c (.i .i64 1))), ((3, 1), (.t 22))]))), 
  (.mk (some 24) none (.call 53 [(.t 20), (.t 23)])), 
  (.mk (some 9) none (.pure (.mv (.t 24))))]) (.block 0 (.loop (.seq (.seq (.ops [
  (.mk (some 25) none (.pure (.mv (.t 9)))), 
  (.mk (some 26) none (.pure (.bin .neq (.t 25) (.c (.i .u8 0)))))]) (.cond (.t 26) .skip (.exit 0))) (.seq (.block 1 (.seq (.ops [
  (.mk (some 31) none (.pure (.mv (.t 1)))), 
  (.mk (some 32) none (.pure (.mv (.t 2)))), 
  (.mk (some 33) none (.pure (.mv (.t 9)))), 
  (.mk (some 34) none (.call 85 [(.t 33)])), 
  (.mk (some 35) none (.pure (.build [(.i .i64 0), (.i .i64 0), (.i .i64 0)] [((0, 1), (.t 31)), ((1, 1), (.t 32)), ((2, 1), (.t 34))]))), 
  (.mk (some 10) none (.al 62 [(.i .i64 0), (.i .i64 0), (.i .i64 0)])), 
  (.mk none none (.st 3 (.t 10) (.t 35)))]) (.seq (.ops [
  (.mk (some 36) none (.pure (.mv (.t 0)))), 
  (.mk (some 37) none (.ld false 3 (.t 10))), 
  (.mk (some 38) none (.call 54 [(.t 36), (.t 37)]))]) (.seq (.seq (.ops [
  (.mk (some 39) none (.pure (.ixA 3 1 (.t 10) (.c (.i .i64 2))))), 
  (.mk (some 40) none (.ld true 1 (.t 39))), 
  (.mk (some 41) none (.pure (.mv (.t 8)))), 
  (.mk (some 42) none (.pure (.bin .eql (.t 40) (.t 41))))]) (.cond (.t 42) .ret .skip)) (.seq (.ops [
  (.mk (some 43) none (.pure (.mv (.t 0)))), 
  (.mk (some 44) none (.pure (.nilck (.t 43)))), 
  (.mk (some 45) none (.ld false 113 (.t 44))), 
  (.mk (some 11) none (.al 75 [(.i .i64 0), (.i .i64 0), (.i .i64 0), (.i .i64 0), (.i .i64 0), (.i .i64 0), (.i .i64 0), (.i .i64 0), (.i .i64 0), (.i .i64 0), (.i .i64 0), (.i .i64 0), (.i .i64 0), (.i .i64 0), (.i .i64 0), (.i .i64 0), (.i .i64 0), (.i .i64 0), (.i .i64 0), (.i .i64 0), (.i .i64 0), (.i .i64 0), (.i .i64 0), (.i .i64 0), (.i .i64 0), (.i .i64 0), (.i .i64 0), (.i .i64 0), (.i .i64 0), (.i .i64 0), (.i .i64 0), (.i .i64 0), (.i .i64 0), (.i .i64 0), (.i .i64 0), (.i .i64 0), (.i .i64 0), (.i .i64 0), (.i .i64 0), (.i .i64 0), (.i .i64 0), (.i .i64 0), (.i .i64 0), (.i .i64 0), (.i .i64 0), (.i .i64 0), (.i .i64 0), (.i .i64 0), (.i .i64 0), (.i .i64 0), (.i .u8 0), (.i .u8 0), (.i .u8 0), (.i .u8 0), (.i .u8 0), (.i .u8 0), (.i .u8 0), (.i .u8 0), (.i .u8 0), (.i .u8 0), (.i .u8 0), (.i .u8 0), (.i .u8 0), (.i .u8 0), (.i .u8 0), (.i .u8 0), (.i .u8 0), (.i .u8 0), (.i .u8 0), (.i .u8 0), (.i .u8 0), (.i .u8 0), (.i .u8 0), (.i .u8 0), (.i .u8 0), (.i .u8 0), (.i .u8 0), (.i .u8 0), (.i .u8 0), (.i .u8 0), (.i .u8 0), (.i .u8 0), (.i .u8 0), (.i .u8 0), (.i .u8 0), (.i .u8 0), (.i .u8 0), (.i .u8 0), (.i .u8 0), (.i .u8 0), (.i .u8 0), (.i .u8 0), (.i .u8 0), (.i .u8 0), (.i .u8 0), (.i .u8 0), (.i .u8 0), (.i .u8 0), (.i .u8 0), (.i .u8 0), (.i .u8 0), (.i .u8 0), (.i .u8 0), (.i .u8 0), (.i .u8 0), (.i .u8 0), (.i .u8 0), (.i .u8 0), (.i .u8 0), (.i .u8 0), (.i .u8 0), (.i .u8 0), (.i .u8 0)])), 
  (.mk none none (.st 113 (.t 11) (.t 45)))]) (.seq (.seq (.ops [
  (.mk (some 46) none (.call 60 [(.t 11)]))]) (.cond (.t 46) (.seq (.ops [
  (.mk (some 47) none (.pure (.mv (.t 3)))), 
  (.mk (some 48) none (.ld false 113 (.t 11))), 
  (.mk (some 49) none (.pure (.nilck (.t 47)))), 
  (.mk none none (.st 113 (.t 49) (.t 48)))]) .ret) .skip)) (.ops [
  (.mk (some 50) none (.pure (.mv (.t 0)))), 
  (.mk (some 51) none (.ld false 3 (.t 10))), 
  (.mk (some 52) none (.call 86 [(.t 50), (.t 51)]))]))))))) (.ops [
  (.mk (some 27) none (.pure (.mv (.t 9)))), 
  (.mk (some 28) none (.pure (.mv (.t 9)))), 
  (.mk (some 29) none (.pure (.bin .sub (.t 28) (.c (.i .u8 1))))), 
  (.mk (some 30) none (.pure (.bin .and (.t 27) (.t 29)))), 
  (.mk (some 9) none (.pure (.mv (.t 30))))]))))))))
def fn62 : AFn := (AFn.mk 23 [(.t 2)] (.seq (.ops [
  (.mk (some 2) none (.pure (.mv (.c .nsl))))]) (.seq (.ops [
  (.mk (some 5) none (.pure (.mv (.t 0)))), 
  (.mk (some 6) none (.pure (.nilck (.t 5)))), 
  (.mk (some 7) none (.pure (.faddr 0 (.t 6)))), 
  (.mk (some 8) none (.ld true 1 (.t 7))), 
  (.mk (some 9) none (.mk 32 1 24 [.nsl] (.t 8) (.t 8))), 
  (.mk (some 3) none (.pure (.mv (.t 9))))]) (.seq (.seq (.ops [
  (.mk (some 10) none (.pure (.mv (.t 3)))), 
  (.mk (some 11) none (.pure (.len false (.t 10)))), 
  (.mk (some 12) none (.pure (.mv (.c (.i .i64 0)))))]) (.block 0 (.loop (.seq (.ops [
  (.mk (some 13) none (.pure (.bin .lss (.t 12) (.t 11))))]) (.seq (.cond (.t 13) .skip (.exit 0)) (.seq (.block 1 (.seq (.ops [
  (.mk (some 14) none (.pure (.mv (.t 12)))), 
  (.mk (some 4) none (.pure (.mv (.t 14))))]) (.ops [
  (.mk (some 15) none (.pure (.mv (.t 3)))), 
  (.mk (some 16) none (.pure (.mv (.t 4)))), 
  (.mk (some 17) none (.pure (.mv (.t 0)))), 
  (.mk (some 18) none (.pure (.mv (.t 4)))), 
  (.mk (some 19) none (.call 68 [(.t 17), (.t 18)])), 
  (.mk (some 20) none (.pure (.ixS 1 (.t 15) (.t 16)))), 
  (.mk none none (.st 1 (.t 20) (.t 19)))]))) (.ops [
  (.mk (some 21) none (.pure (.bin .add (.t 12) (.c (.i .i64 1))))), 
  (.mk (some 12) none (.pure (.mv (.t 21))))]))))))) (.seq (.ops [
  (.mk (some 22) none (.pure (.mv (.t 3)))), 
  (.mk (some 2) none (.pure (.mv (.t 22))))]) .ret)))))
def fn68 : AFn := (AFn.mk 16 [(.t 4)] (.seq (.ops [
  (.mk (some 4) none (.pure (.mv (.c .nsl))))]) (.seq (.ops [
  (.mk (some 5) none (.pure (.mv (.t 0)))), 
  (.mk (some 6) none (.pure (.mv (.t 1)))), 
  (.mk (some 7) none (.pure (.nilck (.t 5)))), 
  (.mk (some 8) none (.pure (.faddr 1 (.t 7)))), 
  (.mk (some 9) none (.pure (.ixA 7 7 (.t 8) (.t 6)))), 
  (.mk (some 10) none (.pure (.mv (.t 0)))), 
  (.mk (some 11) none (.pure (.nilck (.t 10)))), 
  (.mk (some 12) none (.pure (.faddr 0 (.t 11)))), 
  (.mk (some 13) none (.ld true 1 (.t 12))), 
  (.mk (some 14) none (.pure (.slA 7 1 (.t 9) none (some (.t 13))))), 
  (.mk (some 15) none (.call 74 [(.t 14)])), 
  (.mk (some 4) none (.pure (.mv (.t 15))))]) .ret)))
def fn71 : AFn := (AFn.mk 26 [(.t 2), (.t 3)] (.seq (.ops [
  (.mk (some 2) none (.pure (.mv (.c (.p none))))), 
  (.mk (some 3) none (.pure (.mv (.c (.i .i64 0)))))]) (.seq (.ops [
  (.mk (some 9) none (.pure (.mv (.t 0)))), 
  (.mk (some 10) none (.call 59 [(.t 9)])), 
  (.mk (some 8) none (.pure (.mv (.t 10)))), 
  (.mk (some 11) none (.pure (.ext 0 (.t 8)))), 
  (.mk (some 12) none (.pure (.ext 1 (.t 8)))), 
  (.mk (some 4) none (.pure (.mv (.t 11)))), 
  (.mk (some 5) none (.pure (.mv (.t 12))))]) (.seq (.seq (.ops [
  (.mk (some 13) none (.pure (.mv (.t 5)))), 
  (.mk (some 14) none (.pure (.bin .neq (.t 13) (.c (.i .i64 0)))))]) (.cond (.t 14) (.seq (.ops [
  (.mk (some 15) none (.pure (.mv (.t 5)))), 
  (.mk (some 2) none (.pure (.mv (.c (.p none))))), 
  (.mk (some 3) none (.pure (.mv (.t 15))))]) .ret) .skip)) (.seq (.seq (.ops [
  (.mk (some 16) none (.pure (.mv (.t 0)))), 
  (.mk (some 17) none (.pure (.len false (.t 16)))), 
  (.mk (some 18) none (.pure (.mv (.c (.i .i64 0)))))]) (.block 0 (.loop (.seq (.ops [
  (.mk (some 19) none (.pure (.bin .lss (.t 18) (.t 17))))]) (.seq (.cond (.t 19) .skip (.exit 0)) (.seq (.block 1 (.seq (.ops [
  (.mk (some 20) none (.pure (.ixS 1 (.t 16) (.t 18)))), 
  (.mk (some 21) none (.ld true 1 (.t 20))), 
  (.mk (some 7) none (.pure (.mv (.t 21))))]) (.seq (.ops [
  (.mk (some 22) none (.pure (.mv (.t 7)))), 
  (.mk (some 23) none (.call 90 [(.t 22), (.c (.i .i64 (-1)))]))]) (.cond (.t 23) (.seq (.ops [
  (.mk (some 2) none (.pure (.mv (.c (.p none))))), 
  (.mk (some 3) none (.pure (.mv (.c (.i .i64 2)))))]) .ret) .skip)))) (.ops [
  (.mk (some 24) none (.pure (.bin .add (.t 18) (.c (.i .i64 1))))), 
  (.mk (some 18) none (.pure (.mv (.t 24))))]))))))) (.seq (.ops [
  (.mk (some 25) none (.pure (.mv (.t 4)))), 
  (.mk (some 2) none (.pure (.mv (.t 25)))), 
  (.mk (some 3) none (.pure (.mv (.c (.i .i64 0)))))]) .ret))))))
def fn72 : AFn := (AFn.mk 14 [] (.seq (.ops [
  (.mk (some 2) none (.bx 55 1 (.t 0))), 
  (.mk (some 3) none (.bx 88 1 (.t 1)))]) (.seq (.ops [
  (.mk (some 6) none (.ld true 1 (.t 2))), 
  (.mk (some 7) none (.pure (.nilck (.t 6)))), 
  (.mk (some 8) none (.pure (.faddr 0 (.t 7)))), 
  (.mk (some 9) none (.ld true 1 (.t 8))), 
  (.mk (some 10) none (.mk 3 1 8 [(.i .i64 0)] (.t 9) (.t 9))), 
  (.mk (some 4) none (.al 32 [.nsl])), 
  (.mk none none (.st 1 (.t 4) (.t 10)))]) (.seq (.ops [
  (.mk (some 5) none (.al 107 [.nfn]))]) (.seq (.ops [
  (.mk (some 11) none (.pure (.mkfn 92 [] [(.t 2), (.t 3), (.t 4), (.t 5)]))), 
  (.mk none none (.st 1 (.t 5) (.t 11)))]) (.ops [
  (.mk (some 12) none (.ld true 1 (.t 5))), 
  (.mk (some 13) none (.callv (.t 12) [(.c (.i .i64 0)), (.c (.i .u8 0)), (.c (.i .u8 0))]))]))))))
def fn74 : AFn := (AFn.mk 8 [(.t 2)] (.seq (.ops [
  (.mk (some 2) none (.pure (.mv (.c .nsl))))]) (.seq (.seq (.ops [
  (.mk (some 3) none (.pure (.mv (.t 0)))), 
  (.mk (some 4) none (.pure (.nilcmp false (.t 3))))]) (.cond (.t 4) (.seq (.ops [
  (.mk (some 2) none (.pure (.mv (.c .nsl))))]) .ret) .skip)) (.seq (.ops [
  (.mk (some 5) none (.bsl 3 1 [(.i .i64 0)] 0 [])), 
  (.mk (some 6) none (.pure (.mv (.t 0)))), 
  (.mk (some 7) none (.app 3 1 8 [(.i .i64 0)] (.t 5) (.t 6))), 
  (.mk (some 2) none (.pure (.mv (.t 7))))]) .ret))))
def fn76 : AFn := (AFn.mk 6 [(.t 3)] (.seq (.ops [
  (.mk (some 3) none (.pure (.mv (.c (.b false)))))]) (.seq (.ops [
  (.mk (some 4) none (.ld true 1 (.t 1))), 
  (.mk (some 5) none (.pure (.bin .add (.t 4) (.c (.i .i64 1))))), 
  (.mk none none (.st 1 (.t 1) (.t 5)))]) (.seq (.ops [
  (.mk (some 3) none (.pure (.mv (.c (.b true)))))]) .ret))))
def fn78 : AFn := (AFn.mk 102 [(.t 8)] (.seq (.ops [
  (.mk (some 8) none (.pure (.mv (.c (.b false)))))]) (.seq (.seq (.any [(
  (.mk (some 14) none (.pure (.mv (.t 2)))), false), (
  (.mk (some 15) none (.pure (.mv (.t 0)))), false), (
  (.mk (some 16) none (.pure (.nilck (.t 15)))), false), (
  (.mk (some 17) none (.pure (.faddr 0 (.t 16)))), false), (
  (.mk (some 18) none (.ld true 1 (.t 17))), false), (
  (.mk (some 19) none (.pure (.mv (.t 0)))), false), (
  (.mk (some 20) none (.pure (.nilck (.t 19)))), false), (
  (.mk (some 21) none (.pure (.faddr 0 (.t 20)))), false), (
  (.mk (some 22) none (.ld true 1 (.t 21))), false), (
  (.mk (some 23) none (.pure (.bin .mul (.t 18) (.t 22)))), false), (
  (.mk (some 24) none (.pure (.bin .eql (.t 14) (.t 23)))), false)]) (.cond (.t 24) (.seq (.ops [
  (.mk (some 8) none (.pure (.mv (.c (.b true)))))]) .ret) .skip)) (.seq (.any [(
  (.mk (some 25) none (.pure (.mv (.t 2)))), false), (
  (.mk (some 26) none (.pure (.mv (.t 0)))), false), (
  (.mk (some 27) none (.pure (.nilck (.t 26)))), false), (
  (.mk (some 28) none (.pure (.faddr 0 (.t 27)))), false), (
  (.mk (some 29) none (.ld true 1 (.t 28))), false), (
  (.mk (some 30) none (.pure (.bin .quo (.t 25) (.t 29)))), false), (
  (.mk (some 31) none (.pure (.mv (.t 2)))), false), (
  (.mk (some 32) none (.pure (.mv (.t 0)))), false), (
  (.mk (some 33) none (.pure (.nilck (.t 32)))), false), (
  (.mk (some 34) none (.pure (.faddr 0 (.t 33)))), false), (
  (.mk (some 35) none (.ld true 1 (.t 34))), false), (
  (.mk (some 36) none (.pure (.bin .rem (.t 31) (.t 35)))), false), (
  (.mk (some 9) none (.pure (.mv (.t 30)))), false), (
  (.mk (some 10) none (.pure (.mv (.t 36)))), false)]) (.seq (.ops [
  (.mk (some 37) none (.pure (.mv (.t 3)))), 
  (.mk (some 38) none (.pure (.mv (.t 1)))), 
  (.mk (some 39) none (.pure (.mv (.t 9)))), 
  (.mk (some 40) none (.pure (.mv (.t 10)))), 
  (.mk (some 41) none (.pure (.nilck (.t 38)))), 
  (.mk (some 42) none (.pure (.faddr 1 (.t 41)))), 
  (.mk (some 43) none (.pure (.ixA 7 7 (.t 42) (.t 39)))), 
  (.mk (some 44) none (.pure (.ixA 7 1 (.t 43) (.t 40)))), 
  (.mk (some 46) none (.pure (.nilck (.t 37)))), 
  (.mk (some 45) none (.ld true 1 (.t 44))), 
  (.mk (some 47) none (.pure (.ixA 7 1 (.t 46) (.t 45)))), 
  (.mk (some 11) none (.pure (.mv (.t 47))))]) (.seq (.any [(
  (.mk (some 48) none (.pure (.mv (.t 0)))), false), (
  (.mk (some 49) none (.pure (.mv (.t 9)))), false), (
  (.mk (some 50) none (.pure (.mv (.t 10)))), false), (
  (.mk (some 51) none (.pure (.build [(.i .i64 0), (.i .i64 0), (.i .i64 0), (.i .i64 0)] [((0, 1), (.c (.i .i64 0))), ((1, 1), (.t 49)), ((2, 1), (.c (.i .i64 1))), ((3, 1), (.t 50))]))), false), (
  (.mk (some 52) none (.call 53 [(.t 48), (.t 51)])), false), (
  (.mk (some 53) none (.pure (.mv (.t 11)))), false), (
  (.mk (some 54) none (.pure (.nilck (.t 53)))), false), (
  (.mk (some 55) none (.ld true 1 (.t 54))), false), (
  (.mk (some 56) none (.pure (.bin .andNot (.t 52) (.t 55)))), false), (
  (.mk (some 12) none (.pure (.mv (.t 56)))), false)]) (.seq (.seq (.ops [
  (.mk (some 57) none (.pure (.mv (.t 9)))), 
  (.mk (some 58) none (.pure (.bin .eql (.t 57) (.c (.i .i64 0)))))]) (.cond (.t 58) (.ops [
  (.mk (some 59) none (.pure (.mv (.t 12)))), 
  (.mk (some 60) none (.pure (.mv (.t 10)))), 
  (.mk (some 61) none (.pure (.bin .shl (.c (.i .u8 1)) (.t 60)))), 
  (.mk (some 62) none (.pure (.bin .and (.t 59) (.t 61)))), 
  (.mk (some 12) none (.pure (.mv (.t 62))))]) .skip)) (.seq (.block 0 (.loop (.seq (.seq (.ops [
  (.mk (some 63) none (.pure (.mv (.t 12)))), 
  (.mk (some 64) none (.pure (.bin .neq (.t 63) (.c (.i .u8 0)))))]) (.cond (.t 64) .skip (.exit 0))) (.seq (.block 1 (.seq (.ops [
  (.mk (some 69) none (.pure (.mv (.t 9)))), 
  (.mk (some 70) none (.pure (.mv (.t 10)))), 
  (.mk (some 71) none (.pure (.mv (.t 12)))), 
  (.mk (some 72) none (.call 85 [(.t 71)])), 
  (.mk (some 73) none (.pure (.build [(.i .i64 0), (.i .i64 0), (.i .i64 0)] [((0, 1), (.t 69)), ((1, 1), (.t 70)), ((2, 1), (.t 72))]))), 
  (.mk (some 13) none (.al 62 [(.i .i64 0), (.i .i64 0), (.i .i64 0)])), 
  (.mk none none (.st 3 (.t 13) (.t 73)))]) (.seq (.ops [
  (.mk (some 74) none (.pure (.mv (.t 0)))), 
  (.mk (some 75) none (.ld false 3 (.t 13))), 
  (.mk (some 76) none (.call 54 [(.t 74), (.t 75)]))]) (.seq (.any [(
  (.mk (some 77) none (.pure (.mv (.t 11)))), false), (
  (.mk (some 78) none (.pure (.nilck (.t 77)))), false), (
  (.mk (some 79) none (.ld true 1 (.t 78))), false), (
  (.mk (some 80) none (.pure (.ixA 3 1 (.t 13) (.c (.i .i64 2))))), false), (
  (.mk (some 81) none (.ld true 1 (.t 80))), false), (
  (.mk (some 82) none (.pure (.bin .shl (.c (.i .u8 1)) (.t 81)))), false), (
  (.mk (some 83) none (.pure (.bin .or (.t 79) (.t 82)))), false), (
  (.mk (some 84) none (.pure (.nilck (.t 77)))), false), (
  (.mk none none (.st 1 (.t 84) (.t 83))), false)]) (.seq (.seq (.ops [
  (.mk (some 85) none (.pure (.mv (.t 0)))), 
  (.mk (some 86) none (.pure (.mv (.t 1)))), 
  (.mk (some 87) none (.pure (.mv (.t 2)))), 
  (.mk (some 88) none (.pure (.bin .add (.t 87) (.c (.i .i64 1))))), 
  (.mk (some 89) none (.pure (.mv (.t 3)))), 
  (.mk (some 90) none (.call 78 [(.t 85), (.t 86), (.t 88), (.t 89)]))]) (.cond (.t 90) (.seq (.ops [
  (.mk (some 8) none (.pure (.mv (.c (.b true)))))]) .ret) .skip)) (.seq (.any [(
  (.mk (some 91) none (.pure (.mv (.t 11)))), false), (
  (.mk (some 92) none (.pure (.nilck (.t 91)))), false), (
  (.mk (some 93) none (.ld true 1 (.t 92))), false), (
  (.mk (some 94) none (.pure (.ixA 3 1 (.t 13) (.c (.i .i64 2))))), false), (
  (.mk (some 95) none (.ld true 1 (.t 94))), false), (
  (.mk (some 96) none (.pure (.bin .shl (.c (.i .u8 1)) (.t 95)))), false), (
  (.mk (some 97) none (.pure (.bin .andNot (.t 93) (.t 96)))), false), (
  (.mk (some 98) none (.pure (.nilck (.t 91)))), false), (
  (.mk none none (.st 1 (.t 98) (.t 97))), false)]) (.ops [
  (.mk (some 99) none (.pure (.mv (.t 0)))), 
  (.mk (some 100) none (.ld false 3 (.t 13))), 
  (.mk (some 101) none (.call 86 [(.t 99), (.t 100)]))]))))))) (.ops [
  (.mk (some 65) none (.pure (.mv (.t 12)))), 
  (.mk (some 66) none (.pure (.mv (.t 12)))), 
  (.mk (some 67) none (.pure (.bin .sub (.t 66) (.c (.i .u8 1))))), 
  (.mk (some 68) none (.pure (.bin .and (.t 65) (.t 67)))), 
  (.mk (some 12) none (.pure (.mv (.t 68))))]))))) (.seq (.ops [
  (.mk (some 8) none (.pure (.mv (.c (.b false)))))]) .ret)))))))))
def fn80 : AFn := (AFn.mk 12 [(.t 4)] (.seq (.ops [
  (.mk (some 4) none (.pure (.mv (.c (.i .i64 0)))))]) (.seq (.block 0 (.loop (.seq (.seq (.ops [
  (.mk (some 5) none (.pure (.mv (.t 1)))), 
  (.mk (some 6) none (.pure (.bin .neq (.t 5) (.c (.i .i64 0)))))]) (.cond (.t 6) .skip (.exit 0))) (.block 1 (.ops [
  (.mk (some 7) none (.pure (.mv (.t 1)))), 
  (.mk (some 8) none (.pure (.mv (.t 0)))), 
  (.mk (some 9) none (.pure (.mv (.t 1)))), 
  (.mk (some 10) none (.pure (.bin .rem (.t 8) (.t 9)))), 
  (.mk (some 0) none (.pure (.mv (.t 7)))), 
  (.mk (some 1) none (.pure (.mv (.t 10))))]))))) (.seq (.ops [
  (.mk (some 11) none (.pure (.mv (.t 0)))), 
  (.mk (some 4) none (.pure (.mv (.t 11))))]) .ret))))
def fn82 : AFn := (AFn.mk 119 [(.t 8)] (.seq (.ops [
  (.mk (some 8) none (.pure (.mv (.c (.b false)))))]) (.seq (.ops [
  (.mk (some 17) none (.pure (.mv (.t 0)))), 
  (.mk (some 18) none (.pure (.len false (.t 17)))), 
  (.mk (some 9) none (.pure (.mv (.t 18))))]) (.seq (.ops [
  (.mk (some 19) none (.pure (.mv (.t 3)))), 
  (.mk (some 20) none (.pure (.len false (.t 19)))), 
  (.mk (some 10) none (.pure (.mv (.t 20))))]) (.seq (.seq (.ops [
  (.mk (some 21) none (.pure (.mv (.t 10)))), 
  (.mk (some 22) none (.pure (.mv (.t 9)))), 
  (.mk (some 23) none (.pure (.bin .eql (.t 21) (.t 22))))]) (.cond (.t 23) (.seq (.seq (.ops [
  (.mk (some 11) none (.pure (.mv (.c (.i .i64 0)))))]) (.block 0 (.loop (.seq (.seq (.ops [
  (.mk (some 24) none (.pure (.mv (.t 11)))), 
  (.mk (some 25) none (.pure (.mv (.t 9)))), 
  (.mk (some 26) none (.pure (.bin .lss (.t 24) (.t 25))))]) (.cond (.t 26) .skip (.exit 0))) (.seq (.block 1 (.any [(
  (.mk (some 29) none (.pure (.mv (.t 1)))), false), (
  (.mk (some 30) none (.pure (.mv (.t 11)))), false), (
  (.mk (some 31) none (.pure (.ixS 1 (.t 29) (.t 30)))), false), (
  (.mk (some 32) none (.ld true 1 (.t 31))), false), (
  (.mk (some 33) none (.pure (.mv (.t 3)))), false), (
  (.mk (some 34) none (.pure (.mv (.t 11)))), false), (
  (.mk (some 35) none (.pure (.ixS 1 (.t 33) (.t 34)))), false), (
  (.mk (some 36) none (.ld true 1 (.t 35))), false), (
  (.mk (some 37) none (.pure (.ixS 1 (.t 32) (.t 36)))), false), (
  (.mk none none (.st 1 (.t 37) (.c (.b true)))), false)])) (.ops [
  (.mk (some 27) none (.pure (.mv (.t 11)))), 
  (.mk (some 28) none (.pure (.bin .add (.t 27) (.c (.i .i64 1))))), 
  (.mk (some 11) none (.pure (.mv (.t 28))))])))))) (.seq (.ops [
  (.mk (some 38) none (.pure (.mv (.t 0)))), 
  (.mk (some 39) none (.pure (.mv (.t 1)))), 
  (.mk (some 40) none (.pure (.mv (.t 2)))), 
  (.mk (some 41) none (.pure (.bin .add (.t 40) (.c (.i .i64 1))))), 
  (.mk (some 42) none (.call 49 [(.t 38), (.t 39), (.t 41)])), 
  (.mk (some 12) none (.pure (.mv (.t 42))))]) (.seq (.seq (.ops [
  (.mk (some 13) none (.pure (.mv (.c (.i .i64 0)))))]) (.block 2 (.loop (.seq (.seq (.ops [
  (.mk (some 43) none (.pure (.mv (.t 13)))), 
  (.mk (some 44) none (.pure (.mv (.t 9)))), 
  (.mk (some 45) none (.pure (.bin .lss (.t 43) (.t 44))))]) (.cond (.t 45) .skip (.exit 2))) (.seq (.block 3 (.any [(
  (.mk (some 48) none (.pure (.mv (.t 1)))), false), (
  (.mk (some 49) none (.pure (.mv (.t 13)))), false), (
  (.mk (some 50) none (.pure (.ixS 1 (.t 48) (.t 49)))), false), (
  (.mk (some 51) none (.ld true 1 (.t 50))), false), (
  (.mk (some 52) none (.pure (.mv (.t 3)))), false), (
  (.mk (some 53) none (.pure (.mv (.t 13)))), false), (
  (.mk (some 54) none (.pure (.ixS 1 (.t 52) (.t 53)))), false), (
  (.mk (some 55) none (.ld true 1 (.t 54))), false), (
  (.mk (some 56) none (.pure (.ixS 1 (.t 51) (.t 55)))), false), (
  (.mk none none (.st 1 (.t 56) (.c (.b false)))), false)])) (.ops [
  (.mk (some 46) none (.pure (.mv (.t 13)))), 
  (.mk (some 47) none (.pure (.bin .add (.t 46) (.c (.i .i64 1))))), 
  (.mk (some 13) none (.pure (.mv (.t 47))))])))))) (.seq (.ops [
  (.mk (some 57) none (.pure (.mv (.t 12)))), 
  (.mk (some 8) none (.pure (.mv (.t 57))))]) .ret)))) .skip)) (.seq (.seq (.ops [
  (.mk (some 14) none (.pure (.mv (.c (.i .i64 0)))))]) (.block 4 (.loop (.seq (.seq (.ops [
  (.mk (some 58) none (.pure (.mv (.t 14)))), 
  (.mk (some 59) none (.pure (.mv (.t 9)))), 
  (.mk (some 60) none (.pure (.bin .lss (.t 58) (.t 59))))]) (.cond (.t 60) .skip (.exit 4))) (.seq (.block 5 (.seq (.ops [
  (.mk (some 63) none (.pure (.mv (.t 1)))), 
  (.mk (some 64) none (.pure (.mv (.t 10)))), 
  (.mk (some 65) none (.pure (.ixS 1 (.t 63) (.t 64)))), 
  (.mk (some 66) none (.ld true 1 (.t 65))), 
  (.mk (some 67) none (.pure (.mv (.t 14)))), 
  (.mk (some 68) none (.pure (.ixS 1 (.t 66) (.t 67)))), 
  (.mk (some 69) none (.ld true 1 (.t 68))), 
  (.mk (some 70) none (.pure (.not (.t 69)))), 
  (.mk (some 15) none (.pure (.mv (.t 70))))]) (.seq (.seq (.ops [
  (.mk (some 16) none (.pure (.mv (.c (.i .i64 0)))))]) (.block 6 (.loop (.seq (.seq (.ops [
  (.mk (some 71) none (.pure (.mv (.t 16)))), 
  (.mk (some 72) none (.pure (.mv (.t 10)))), 
  (.mk (some 73) none (.pure (.bin .lss (.t 71) (.t 72))))]) (.cond (.t 73) .skip (.exit 6))) (.seq (.block 7 (.any [(
  (.mk (some 76) none (.pure (.mv (.t 15)))), false), (
  (.mk (some 77) none (.pure (.mv (.t 76)))), false), (
  (.mk (some 78) (some (77, true)) (.pure (.mv (.t 3)))), false), (
  (.mk (some 79) (some (77, true)) (.pure (.mv (.t 16)))), false), (
  (.mk (some 80) (some (77, true)) (.pure (.ixS 1 (.t 78) (.t 79)))), false), (
  (.mk (some 81) (some (77, true)) (.ld true 1 (.t 80))), false), (
  (.mk (some 82) (some (77, true)) (.pure (.mv (.t 14)))), false), (
  (.mk (some 83) (some (77, true)) (.pure (.bin .neq (.t 81) (.t 82)))), false), (
  (.mk (some 84) none (.pure (.pick (.t 77) (.t 83) (.c (.b false))))), false), (
  (.mk (some 85) none (.pure (.mv (.t 84)))), false), (
  (.mk (some 86) (some (85, true)) (.pure (.mv (.t 0)))), false), (
  (.mk (some 87) (some (85, true)) (.pure (.mv (.t 16)))), false), (
  (.mk (some 88) (some (85, true)) (.pure (.ixS 1 (.t 86) (.t 87)))), false), (
  (.mk (some 89) (some (85, true)) (.ld true 1 (.t 88))), false), (
  (.mk (some 90) (some (85, true)) (.pure (.mv (.t 3)))), false), (
  (.mk (some 91) (some (85, true)) (.pure (.mv (.t 16)))), false), (
  (.mk (some 92) (some (85, true)) (.pure (.ixS 1 (.t 90) (.t 91)))), false), (
  (.mk (some 93) (some (85, true)) (.ld true 1 (.t 92))), false), (
  (.mk (some 94) (some (85, true)) (.pure (.ixS 1 (.t 89) (.t 93)))), false), (
  (.mk (some 95) (some (85, true)) (.ld true 1 (.t 94))), false), (
  (.mk (some 96) (some (85, true)) (.pure (.mv (.t 0)))), false), (
  (.mk (some 97) (some (85, true)) (.pure (.mv (.t 10)))), false), (
  (.mk (some 98) (some (85, true)) (.pure (.ixS 1 (.t 96) (.t 97)))), false), (
  (.mk (some 99) (some (85, true)) (.ld true 1 (.t 98))), false), (
  (.mk (some 100) (some (85, true)) (.pure (.mv (.t 14)))), false), (
  (.mk (some 101) (some (85, true)) (.pure (.ixS 1 (.t 99) (.t 100)))), false), (
  (.mk (some 102) (some (85, true)) (.ld true 1 (.t 101))), false), (
  (.mk (some 103) (some (85, true)) (.pure (.bin .neq (.t 95) (.t 102)))), false), (
  (.mk (some 104) none (.pure (.pick (.t 85) (.t 103) (.c (.b false))))), false), (
  (.mk (some 15) none (.pure (.mv (.t 104)))), false)])) (.ops [
  (.mk (some 74) none (.pure (.mv (.t 16)))), 
  (.mk (some 75) none (.pure (.bin .add (.t 74) (.c (.i .i64 1))))), 
  (.mk (some 16) none (.pure (.mv (.t 75))))])))))) (.seq (.ops [
  (.mk (some 105) none (.pure (.mv (.t 15)))), 
  (.mk (some 106) none (.pure (.mv (.t 105)))), 
  (.mk (some 107) (some (106, true)) (.pure (.mv (.t 0)))), 
  (.mk (some 108) (some (106, true)) (.pure (.mv (.t 1)))), 
  (.mk (some 109) (some (106, true)) (.pure (.mv (.t 2)))), 
  (.mk (some 110) (some (106, true)) (.pure (.mv (.t 3)))), 
  (.mk (some 111) (some (106, true)) (.pure (.mv (.t 10)))), 
  (.mk (some 112) (some (106, true)) (.pure (.mv (.t 10)))), 
  (.mk (some 113) (some (106, true)) (.pure (.slS 1 (.t 110) none (some (.t 111)) (some (.t 112))))), 
  (.mk (some 114) (some (106, true)) (.pure (.mv (.t 14)))), 
  (.mk (some 115) (some (106, true)) (.bsl 3 1 [(.i .i64 0)] 1 [((0, 1), (.t 114))])), 
  (.mk (some 116) (some (106, true)) (.app 3 1 8 [(.i .i64 0)] (.t 113) (.t 115))), 
  (.mk (some 117) (some (106, true)) (.call 82 [(.t 107), (.t 108), (.t 109), (.t 116)])), 
  (.mk (some 118) none (.pure (.pick (.t 106) (.t 117) (.c (.b false)))))]) (.cond (.t 118) (.seq (.ops [
  (.mk (some 8) none (.pure (.mv (.c (.b true)))))]) .ret) .skip))))) (.ops [
  (.mk (some 61) none (.pure (.mv (.t 14)))), 
  (.mk (some 62) none (.pure (.bin .add (.t 61) (.c (.i .i64 1))))), 
  (.mk (some 14) none (.pure (.mv (.t 62))))])))))) (.seq (.ops [
  (.mk (some 8) none (.pure (.mv (.c (.b false)))))]) .ret)))))))
def fn83 : AFn := (AFn.mk 67 [(.c 2 false 4), (.t 3)] (.seq (.ops [
  (.mk (some 2) none (.al 59 [(.i .i64 0), (.i .i64 0), (.i .i64 0), (.i .i64 0)])), 
  (.mk (some 3) none (.pure (.mv (.c (.b false)))))]) (.seq (.ops [
  (.mk (some 4) none (.al 59 [(.i .i64 0), (.i .i64 0), (.i .i64 0), (.i .i64 0)]))]) (.seq (.ops [
  (.mk (some 12) none (.pure (.mv (.t 0)))), 
  (.mk (some 13) none (.pure (.nilck (.t 12)))), 
  (.mk (some 14) none (.pure (.faddr 0 (.t 13)))), 
  (.mk (some 15) none (.ld true 1 (.t 14))), 
  (.mk (some 16) none (.pure (.bin .add (.t 15) (.c (.i .i64 1))))), 
  (.mk (some 5) none (.pure (.mv (.t 16))))]) (.seq (.seq (.ops [
  (.mk (some 17) none (.pure (.build [(.i .i64 0), (.i .i64 0)] [((0, 1), (.c (.i .i64 0))), ((1, 1), (.c (.i .i64 1)))]))), 
  (.mk (some 18) none (.pure (.build [(.i .i64 0), (.i .i64 0)] [((0, 1), (.c (.i .i64 0))), ((1, 1), (.c (.i .i64 2)))]))), 
  (.mk (some 19) none (.pure (.build [(.i .i64 0), (.i .i64 0)] [((0, 1), (.c (.i .i64 1))), ((1, 1), (.c (.i .i64 2)))]))), 
  (.mk (some 20) none (.pure (.build [(.i .i64 0), (.i .i64 0), (.i .i64 0), (.i .i64 0), (.i .i64 0), (.i .i64 0)] [((0, 2), (.t 17)), ((2, 2), (.t 18)), ((4, 2), (.t 19))]))), 
  (.mk (some 21) none (.pure (.mv (.c (.i .i64 0)))))]) (.block 0 (.loop (.seq (.ops [
  (.mk (some 22) none (.pure (.bin .lss (.t 21) (.c (.i .i64 3)))))]) (.seq (.cond (.t 22) .skip (.exit 0)) (.seq (.block 1 (.seq (.ops [
  (.mk (some 23) none (.pure (.ixV 3 2 false (.t 20) (.t 21)))), 
  (.mk (some 7) none (.al 109 [(.i .i64 0), (.i .i64 0)])), 
  (.mk none none (.st 2 (.t 7) (.t 23)))]) (.seq (.ops [
  (.mk (some 24) none (.pure (.mv (.t 0)))), 
  (.mk (some 25) none (.pure (.nilck (.t 24)))), 
  (.mk (some 26) none (.pure (.faddr 0 (.t 25)))), 
  (.mk (some 27) none (.ld true 1 (.t 26))), 
  (.mk (some 28) none (.pure (.mv (.c (.i .i64 0)))))]) (.block 2 (.loop (.seq (.ops [
  (.mk (some 29) none (.pure (.bin .lss (.t 28) (.t 27))))]) (.seq (.cond (.t 29) .skip (.exit 2)) (.seq (.block 3 (.seq (.ops [
  (.mk (some 30) none (.pure (.mv (.t 28)))), 
  (.mk (some 8) none (.pure (.mv (.t 30))))]) (.seq (.ops [
  (.mk (some 31) none (.pure (.mv (.t 0)))), 
  (.mk (some 32) none (.pure (.nilck (.t 31)))), 
  (.mk (some 33) none (.pure (.faddr 0 (.t 32)))), 
  (.mk (some 34) none (.ld true 1 (.t 33))), 
  (.mk (some 35) none (.pure (.mv (.c (.i .i64 0)))))]) (.block 4 (.loop (.seq (.ops [
  (.mk (some 36) none (.pure (.bin .lss (.t 35) (.t 34))))]) (.seq (.cond (.t 36) .skip (.exit 4)) (.seq (.block 5 (.seq (.ops [
  (.mk (some 37) none (.pure (.mv (.t 35)))), 
  (.mk (some 9) none (.pure (.mv (.t 37))))]) (.seq (.ops [
  (.mk (some 38) none (.pure (.ixA 2 1 (.t 7) (.c (.i .i64 0))))), 
  (.mk (some 39) none (.ld true 1 (.t 38))), 
  (.mk (some 40) none (.pure (.mv (.t 8)))), 
  (.mk (some 41) none (.pure (.ixA 2 1 (.t 7) (.c (.i .i64 1))))), 
  (.mk (some 42) none (.ld true 1 (.t 41))), 
  (.mk (some 43) none (.pure (.mv (.t 9)))), 
  (.mk (some 44) none (.pure (.build [(.i .i64 0), (.i .i64 0), (.i .i64 0), (.i .i64 0)] [((0, 1), (.t 39)), ((1, 1), (.t 40)), ((2, 1), (.t 42)), ((3, 1), (.t 43))]))), 
  (.mk (some 10) none (.al 59 [(.i .i64 0), (.i .i64 0), (.i .i64 0), (.i .i64 0)])), 
  (.mk none none (.st 4 (.t 10) (.t 44)))]) (.seq (.seq (.ops [
  (.mk (some 45) none (.pure (.mv (.t 0)))), 
  (.mk (some 46) none (.ld false 4 (.t 10))), 
  (.mk (some 47) none (.call 93 [(.t 45), (.t 46)]))]) (.cond (.t 47) (.exit 5) .skip)) (.seq (.ops [
  (.mk (some 48) none (.pure (.mv (.t 0)))), 
  (.mk (some 49) none (.ld false 4 (.t 10))), 
  (.mk (some 50) none (.call 53 [(.t 48), (.t 49)])), 
  (.mk (some 51) none (.call 94 [(.t 50)])), 
  (.mk (some 11) none (.pure (.mv (.t 51))))]) (.seq (.ops [
  (.mk (some 52) none (.pure (.mv (.t 11)))), 
  (.mk (some 53) none (.pure (.mv (.t 5)))), 
  (.mk (some 54) none (.pure (.bin .lss (.t 52) (.t 53))))]) (.cond (.t 54) (.ops [
  (.mk (some 55) none (.ld false 4 (.t 10))), 
  (.mk (some 56) none (.pure (.mv (.t 11)))), 
  (.mk none none (.st 4 (.t 4) (.t 55))), 
  (.mk (some 5) none (.pure (.mv (.t 56))))]) .skip))))))) (.ops [
  (.mk (some 57) none (.pure (.bin .add (.t 35) (.c (.i .i64 1))))), 
  (.mk (some 35) none (.pure (.mv (.t 57))))]))))))))) (.ops [
  (.mk (some 58) none (.pure (.bin .add (.t 28) (.c (.i .i64 1))))), 
  (.mk (some 28) none (.pure (.mv (.t 58))))]))))))))) (.ops [
  (.mk (some 59) none (.pure (.bin .add (.t 21) (.c (.i .i64 1))))), 
  (.mk (some 21) none (.pure (.mv (.t 59))))]))))))) (.seq (.any [(
  (.mk (some 60) none (.ld false 4 (.t 4))), false), (
  (.mk (some 61) none (.pure (.mv (.t 5)))), false), (
  (.mk (some 62) none (.pure (.mv (.t 0)))), false), (
  (.mk (some 63) none (.pure (.nilck (.t 62)))), false), (
  (.mk (some 64) none (.pure (.faddr 0 (.t 63)))), false), (
  (.mk (some 65) none (.ld true 1 (.t 64))), true), (
  (.mk (some 66) none (.pure (.bin .leq (.t 61) (.t 65)))), false), (
  (.mk none none (.st 4 (.t 2) (.t 60))), false), (
  (.mk (some 3) none (.pure (.mv (.t 66)))), false)]) .ret))))))
def fn84 : AFn := (AFn.mk 25 [(.c 4 false 3)] (.seq (.ops [
  (.mk (some 2) none (.bx 59 4 (.t 0))), 
  (.mk (some 4) none (.al 62 [(.i .i64 0), (.i .i64 0), (.i .i64 0)]))]) (.seq (.ops [
  (.mk (some 5) none (.al 62 [(.i .i64 0), (.i .i64 0), (.i .i64 0)]))]) (.seq (.any [(
  (.mk (some 6) none (.pure (.faddr 0 (.t 2)))), false), (
  (.mk (some 7) none (.ld true 1 (.t 6))), false), (
  (.mk (some 8) none (.pure (.faddr 2 (.t 2)))), false), (
  (.mk (some 9) none (.ld true 1 (.t 8))), true), (
  (.mk (some 10) none (.pure (.faddr 0 (.t 2)))), false), (
  (.mk (some 11) none (.ld true 1 (.t 10))), true), (
  (.mk (some 12) none (.pure (.bin .sub (.c (.i .i64 3)) (.t 11)))), false), (
  (.mk (some 13) none (.pure (.faddr 2 (.t 2)))), false), (
  (.mk (some 14) none (.ld true 1 (.t 13))), true), (
  (.mk (some 15) none (.pure (.bin .sub (.t 12) (.t 14)))), false), (
  (.mk (some 16) none (.pure (.faddr 1 (.t 2)))), false), (
  (.mk (some 17) none (.ld true 1 (.t 16))), false), (
  (.mk (some 18) none (.pure (.faddr 3 (.t 2)))), false), (
  (.mk (some 19) none (.ld true 1 (.t 18))), true), (
  (.mk (some 20) none (.pure (.mv (.t 1)))), false), (
  (.mk (some 21) none (.pure (.ixA 3 1 (.t 5) (.t 7)))), false), (
  (.mk none none (.st 1 (.t 21) (.t 17))), false), (
  (.mk (some 22) none (.pure (.ixA 3 1 (.t 5) (.t 9)))), false), (
  (.mk none none (.st 1 (.t 22) (.t 19))), false), (
  (.mk (some 23) none (.pure (.ixA 3 1 (.t 5) (.t 15)))), false), (
  (.mk none none (.st 1 (.t 23) (.t 20))), false)]) (.seq (.ops [
  (.mk (some 24) none (.ld false 3 (.t 5))), 
  (.mk none none (.st 3 (.t 4) (.t 24)))]) .ret)))))
def fn85 : AFn := (AFn.mk 6 [(.t 2)] (.seq (.ops [
  (.mk (some 2) none (.pure (.mv (.c (.i .i64 0)))))]) (.seq (.ops [
  (.mk (some 3) none (.pure (.mv (.t 0)))), 
  (.mk (some 4) none (.pure (.ixStr (.c (.s [8, 0, 1, 0, 2, 0, 1, 0, 3, 0, 1, 0, 2, 0, 1, 0, 4, 0, 1, 0, 2, 0, 1, 0, 3, 0, 1, 0, 2, 0, 1, 0, 5, 0, 1, 0, 2, 0, 1, 0, 3, 0, 1, 0, 2, 0, 1, 0, 4, 0, 1, 0, 2, 0, 1, 0, 3, 0, 1, 0, 2, 0, 1, 0, 6, 0, 1, 0, 2, 0, 1, 0, 3, 0, 1, 0, 2, 0, 1, 0, 4, 0, 1, 0, 2, 0, 1, 0, 3, 0, 1, 0, 2, 0, 1, 0, 5, 0, 1, 0, 2, 0, 1, 0, 3, 0, 1, 0, 2, 0, 1, 0, 4, 0, 1, 0, 2, 0, 1, 0, 3, 0, 1, 0, 2, 0, 1, 0, 7, 0, 1, 0, 2, 0, 1, 0, 3, 0, 1, 0, 2, 0, 1, 0, 4, 0, 1, 0, 2, 0, 1, 0, 3, 0, 1, 0, 2, 0, 1, 0, 5, 0, 1, 0, 2, 0, 1, 0, 3, 0, 1, 0, 2, 0, 1, 0, 4, 0, 1, 0, 2, 0, 1, 0, 3, 0, 1, 0, 2, 0, 1, 0, 6, 0, 1, 0, 2, 0, 1, 0, 3, 0, 1, 0, 2, 0, 1, 0, 4, 0, 1, 0, 2, 0, 1, 0, 3, 0, 1, 0, 2, 0, 1, 0, 5, 0, 1, 0, 2, 0, 1, 0, 3, 0, 1, 0, 2, 0, 1, 0, 4, 0, 1, 0, 2, 0, 1, 0, 3, 0, 1, 0, 2, 0, 1, 0])) (.t 3)))), 
  (.mk (some 5) none (.pure (.conv .i64 (.t 4)))), 
  (.mk (some 2) none (.pure (.mv (.t 5))))]) .ret)))
def fn86 : AFn := (AFn.mk 45 [] (.seq (.ops [
  (.mk (some 3) none (.bx 62 3 (.t 1)))]) (.seq (.any [(
  (.mk (some 6) none (.pure (.mv (.t 0)))), false), (
  (.mk (some 7) none (.pure (.ixA 3 1 (.t 3) (.c (.i .i64 0))))), false), (
  (.mk (some 8) none (.ld true 1 (.t 7))), false), (
  (.mk (some 9) none (.pure (.ixA 3 1 (.t 3) (.c (.i .i64 1))))), false), (
  (.mk (some 10) none (.ld true 1 (.t 9))), false), (
  (.mk (some 11) none (.pure (.nilck (.t 6)))), false), (
  (.mk (some 12) none (.pure (.faddr 1 (.t 11)))), false), (
  (.mk (some 13) none (.pure (.ixA 7 7 (.t 12) (.t 8)))), false), (
  (.mk (some 14) none (.pure (.ixA 7 1 (.t 13) (.t 10)))), false), (
  (.mk none none (.st 1 (.t 14) (.c (.i .i64 (-1))))), false)]) (.seq (.ops [
  (.mk (some 15) none (.pure (.mv (.c (.i .i64 0)))))]) (.block 0 (.loop (.seq (.ops [
  (.mk (some 16) none (.pure (.bin .lss (.t 15) (.c (.i .i64 3)))))]) (.seq (.cond (.t 16) .skip (.exit 0)) (.seq (.block 1 (.seq (.ops [
  (.mk (some 17) none (.pure (.mv (.t 15)))), 
  (.mk (some 4) none (.pure (.mv (.t 17))))]) (.seq (.ops [
  (.mk (some 18) none (.pure (.mv (.c (.i .i64 0)))))]) (.block 2 (.loop (.seq (.ops [
  (.mk (some 19) none (.pure (.bin .lss (.t 18) (.c (.i .i64 3)))))]) (.seq (.cond (.t 19) .skip (.exit 2)) (.seq (.block 3 (.seq (.ops [
  (.mk (some 20) none (.pure (.mv (.t 18)))), 
  (.mk (some 5) none (.pure (.mv (.t 20))))]) (.any [(
  (.mk (some 21) none (.pure (.mv (.t 0)))), false), (
  (.mk (some 22) none (.pure (.mv (.t 4)))), false), (
  (.mk (some 23) none (.pure (.mv (.t 5)))), false), (
  (.mk (some 24) none (.pure (.mv (.t 4)))), false), (
  (.mk (some 25) none (.pure (.ixA 3 1 (.t 3) (.t 24)))), false), (
  (.mk (some 26) none (.ld true 1 (.t 25))), false), (
  (.mk (some 27) none (.pure (.nilck (.t 21)))), false), (
  (.mk (some 28) none (.pure (.faddr 50 (.t 27)))), false), (
  (.mk (some 29) none (.pure (.ixA 3 21 (.t 28) (.t 22)))), false), (
  (.mk (some 30) none (.pure (.ixA 3 7 (.t 29) (.t 23)))), false), (
  (.mk (some 31) none (.pure (.ixA 7 1 (.t 30) (.t 26)))), false), (
  (.mk (some 32) none (.ld true 1 (.t 31))), false), (
  (.mk (some 33) none (.pure (.mv (.t 5)))), false), (
  (.mk (some 34) none (.pure (.ixA 3 1 (.t 3) (.t 33)))), false), (
  (.mk (some 35) none (.ld true 1 (.t 34))), false), (
  (.mk (some 36) none (.pure (.bin .shl (.c (.i .u8 1)) (.t 35)))), false), (
  (.mk (some 37) none (.pure (.bin .andNot (.t 32) (.t 36)))), false), (
  (.mk (some 38) none (.pure (.nilck (.t 21)))), false), (
  (.mk (some 39) none (.pure (.faddr 50 (.t 38)))), false), (
  (.mk (some 40) none (.pure (.ixA 3 21 (.t 39) (.t 22)))), false), (
  (.mk (some 41) none (.pure (.ixA 3 7 (.t 40) (.t 23)))), false), (
  (.mk (some 42) none (.pure (.ixA 7 1 (.t 41) (.t 26)))), false), (
  (.mk none none (.st 1 (.t 42) (.t 37))), false)]))) (.ops [
  (.mk (some 43) none (.pure (.bin .add (.t 18) (.c (.i .i64 1))))), 
  (.mk (some 18) none (.pure (.mv (.t 43))))]))))))))) (.ops [
  (.mk (some 44) none (.pure (.bin .add (.t 15) (.c (.i .i64 1))))), 
  (.mk (some 15) none (.pure (.mv (.t 44))))]))))))))))
def fn90 : AFn := (AFn.mk 9 [(.t 4)] (.seq (.ops [
  (.mk (some 4) none (.pure (.mv (.c (.b false)))))]) (.seq (.ops [
  (.mk (some 5) none (.pure (.mv (.t 0)))), 
  (.mk (some 6) none (.pure (.mv (.t 1)))), 
  (.mk (some 7) none (.call 97 [(.t 5), (.t 6)])), 
  (.mk (some 8) none (.pure (.bin .geq (.t 7) (.c (.i .i64 0))))), 
  (.mk (some 4) none (.pure (.mv (.t 8))))]) .ret)))
def fn92 : AFn := (AFn.mk 67 [(.t 10)] (.seq (.ops [
  (.mk (some 10) none (.pure (.mv (.c (.b false)))))]) (.seq (.seq (.ops [
  (.mk (some 14) none (.pure (.mv (.t 0)))), 
  (.mk (some 15) none (.ld true 1 (.t 3))), 
  (.mk (some 16) none (.pure (.nilck (.t 15)))), 
  (.mk (some 17) none (.pure (.faddr 0 (.t 16)))), 
  (.mk (some 18) none (.ld true 1 (.t 17))), 
  (.mk (some 19) none (.pure (.bin .eql (.t 14) (.t 18))))]) (.cond (.t 19) (.seq (.ops [
  (.mk (some 20) none (.ld true 1 (.t 4))), 
  (.mk (some 21) none (.ld true 1 (.t 5))), 
  (.mk (some 22) none (.callv (.t 20) [(.t 21)])), 
  (.mk (some 10) none (.pure (.mv (.t 22))))]) .ret) .skip)) (.seq (.seq (.ops [
  (.mk (some 23) none (.ld true 1 (.t 3))), 
  (.mk (some 24) none (.pure (.nilck (.t 23)))), 
  (.mk (some 25) none (.pure (.faddr 0 (.t 24)))), 
  (.mk (some 26) none (.ld true 1 (.t 25))), 
  (.mk (some 27) none (.pure (.mv (.c (.i .i64 0)))))]) (.block 0 (.loop (.seq (.ops [
  (.mk (some 28) none (.pure (.bin .lss (.t 27) (.t 26))))]) (.seq (.cond (.t 28) .skip (.exit 0)) (.seq (.block 1 (.seq (.ops [
  (.mk (some 29) none (.pure (.mv (.t 27)))), 
  (.mk (some 11) none (.pure (.mv (.t 29))))]) (.seq (.ops [
  (.mk (some 30) none (.pure (.mv (.t 11)))), 
  (.mk (some 31) none (.pure (.bin .shl (.c (.i .u8 1)) (.t 30)))), 
  (.mk (some 33) none (.pure (.mv (.t 0)))), 
  (.mk (some 34) none (.pure (.mv (.t 11)))), 
  (.mk (some 12) none (.pure (.mv (.t 31)))), 
  (.mk (some 32) none (.ld true 1 (.t 3))), 
  (.mk (some 35) none (.pure (.nilck (.t 32)))), 
  (.mk (some 36) none (.pure (.faddr 1 (.t 35)))), 
  (.mk (some 37) none (.pure (.ixA 7 7 (.t 36) (.t 33)))), 
  (.mk (some 38) none (.pure (.ixA 7 1 (.t 37) (.t 34)))), 
  (.mk (some 39) none (.ld true 1 (.t 38))), 
  (.mk (some 40) none (.pure (.bin .shl (.c (.i .u8 1)) (.t 39)))), 
  (.mk (some 13) none (.pure (.mv (.t 40))))]) (.seq (.seq (.ops [
  (.mk (some 41) none (.pure (.mv (.t 1)))), 
  (.mk (some 42) none (.pure (.mv (.t 12)))), 
  (.mk (some 43) none (.pure (.bin .and (.t 41) (.t 42)))), 
  (.mk (some 44) none (.pure (.bin .neq (.t 43) (.c (.i .u8 0))))), 
  (.mk (some 45) none (.pure (.mv (.t 44)))), 
  (.mk (some 46) (some (45, false)) (.pure (.mv (.t 2)))), 
  (.mk (some 47) (some (45, false)) (.pure (.mv (.t 13)))), 
  (.mk (some 48) (some (45, false)) (.pure (.bin .and (.t 46) (.t 47)))), 
  (.mk (some 49) (some (45, false)) (.pure (.bin .neq (.t 48) (.c (.i .u8 0))))), 
  (.mk (some 50) none (.pure (.pick (.t 45) (.c (.b true)) (.t 49))))]) (.cond (.t 50) (.exit 1) .skip)) (.seq (.ops [
  (.mk (some 51) none (.ld true 1 (.t 5))), 
  (.mk (some 52) none (.pure (.mv (.t 0)))), 
  (.mk (some 53) none (.pure (.mv (.t 11)))), 
  (.mk (some 54) none (.pure (.ixS 1 (.t 51) (.t 52)))), 
  (.mk none none (.st 1 (.t 54) (.t 53)))]) (.seq (.ops [
  (.mk (some 55) none (.ld true 1 (.t 6))), 
  (.mk (some 56) none (.pure (.mv (.t 0)))), 
  (.mk (some 57) none (.pure (.bin .add (.t 56) (.c (.i .i64 1))))), 
  (.mk (some 58) none (.pure (.mv (.t 1)))), 
  (.mk (some 59) none (.pure (.mv (.t 12)))), 
  (.mk (some 60) none (.pure (.bin .or (.t 58) (.t 59)))), 
  (.mk (some 61) none (.pure (.mv (.t 2)))), 
  (.mk (some 62) none (.pure (.mv (.t 13)))), 
  (.mk (some 63) none (.pure (.bin .or (.t 61) (.t 62)))), 
  (.mk (some 64) none (.callv (.t 55) [(.t 57), (.t 60), (.t 63)])), 
  (.mk (some 65) none (.pure (.not (.t 64))))]) (.cond (.t 65) (.seq (.ops [
  (.mk (some 10) none (.pure (.mv (.c (.b false)))))]) .ret) .skip))))))) (.ops [
  (.mk (some 66) none (.pure (.bin .add (.t 27) (.c (.i .i64 1))))), 
  (.mk (some 27) none (.pure (.mv (.t 66))))]))))))) (.seq (.ops [
  (.mk (some 10) none (.pure (.mv (.c (.b true)))))]) .ret)))))
def fn93 : AFn := (AFn.mk 23 [(.t 4)] (.seq (.ops [
  (.mk (some 3) none (.bx 59 4 (.t 1))), 
  (.mk (some 4) none (.pure (.mv (.c (.b false)))))]) (.seq (.any [(
  (.mk (some 5) none (.pure (.mv (.t 0)))), false), (
  (.mk (some 6) none (.pure (.faddr 0 (.t 3)))), false), (
  (.mk (some 7) none (.ld true 1 (.t 6))), false), (
  (.mk (some 8) none (.pure (.faddr 2 (.t 3)))), false), (
  (.mk (some 9) none (.ld true 1 (.t 8))), false), (
  (.mk (some 10) none (.pure (.faddr 1 (.t 3)))), false), (
  (.mk (some 11) none (.ld true 1 (.t 10))), false), (
  (.mk (some 12) none (.pure (.nilck (.t 5)))), false), (
  (.mk (some 13) none (.pure (.faddr 50 (.t 12)))), false), (
  (.mk (some 14) none (.pure (.ixA 3 21 (.t 13) (.t 7)))), false), (
  (.mk (some 15) none (.pure (.ixA 3 7 (.t 14) (.t 9)))), false), (
  (.mk (some 16) none (.pure (.ixA 7 1 (.t 15) (.t 11)))), false), (
  (.mk (some 17) none (.ld true 1 (.t 16))), false), (
  (.mk (some 18) none (.pure (.faddr 3 (.t 3)))), false), (
  (.mk (some 19) none (.ld true 1 (.t 18))), false), (
  (.mk (some 20) none (.pure (.bin .shr (.t 17) (.t 19)))), false), (
  (.mk (some 21) none (.pure (.bin .and (.t 20) (.c (.i .u8 1))))), false), (
  (.mk (some 22) none (.pure (.bin .eql (.t 21) (.c (.i .u8 1))))), false), (
  (.mk (some 4) none (.pure (.mv (.t 22)))), false)]) .ret)))
def fn94 : AFn := (AFn.mk 6 [(.t 2)] (.seq (.ops [
  (.mk (some 2) none (.pure (.mv (.c (.i .i64 0)))))]) (.seq (.ops [
  (.mk (some 3) none (.pure (.mv (.t 0)))), 
  (.mk (some 4) none (.pure (.ixStr (.c (.s [0, 1, 1, 2, 1, 2, 2, 3, 1, 2, 2, 3, 2, 3, 3, 4, 1, 2, 2, 3, 2, 3, 3, 4, 2, 3, 3, 4, 3, 4, 4, 5, 1, 2, 2, 3, 2, 3, 3, 4, 2, 3, 3, 4, 3, 4, 4, 5, 2, 3, 3, 4, 3, 4, 4, 5, 3, 4, 4, 5, 4, 5, 5, 6, 1, 2, 2, 3, 2, 3, 3, 4, 2, 3, 3, 4, 3, 4, 4, 5, 2, 3, 3, 4, 3, 4, 4, 5, 3, 4, 4, 5, 4, 5, 5, 6, 2, 3, 3, 4, 3, 4, 4, 5, 3, 4, 4, 5, 4, 5, 5, 6, 3, 4, 4, 5, 4, 5, 5, 6, 4, 5, 5, 6, 5, 6, 6, 7, 1, 2, 2, 3, 2, 3, 3, 4, 2, 3, 3, 4, 3, 4, 4, 5, 2, 3, 3, 4, 3, 4, 4, 5, 3, 4, 4, 5, 4, 5, 5, 6, 2, 3, 3, 4, 3, 4, 4, 5, 3, 4, 4, 5, 4, 5, 5, 6, 3, 4, 4, 5, 4, 5, 5, 6, 4, 5, 5, 6, 5, 6, 6, 7, 2, 3, 3, 4, 3, 4, 4, 5, 3, 4, 4, 5, 4, 5, 5, 6, 3, 4, 4, 5, 4, 5, 5, 6, 4, 5, 5, 6, 5, 6, 6, 7, 3, 4, 4, 5, 4, 5, 5, 6, 4, 5, 5, 6, 5, 6, 6, 7, 4, 5, 5, 6, 5, 6, 6, 7, 5, 6, 6, 7, 6, 7, 7, 8])) (.t 3)))), 
  (.mk (some 5) none (.pure (.conv .i64 (.t 4)))), 
  (.mk (some 2) none (.pure (.mv (.t 5))))]) .ret)))
def fn97 : AFn := (AFn.mk 19 [(.t 4)] (.seq (.ops [
  (.mk (some 4) none (.pure (.mv (.c (.i .i64 0)))))]) (.seq (.seq (.ops [
  (.mk (some 6) none (.pure (.mv (.t 0)))), 
  (.mk (some 7) none (.pure (.len false (.t 6)))), 
  (.mk (some 8) none (.pure (.mv (.c (.i .i64 0)))))]) (.block 0 (.loop (.seq (.ops [
  (.mk (some 9) none (.pure (.bin .lss (.t 8) (.t 7))))]) (.seq (.cond (.t 9) .skip (.exit 0)) (.seq (.block 1 (.seq (.ops [
  (.mk (some 10) none (.pure (.mv (.t 8)))), 
  (.mk (some 5) none (.pure (.mv (.t 10))))]) (.seq (.ops [
  (.mk (some 11) none (.pure (.mv (.t 1)))), 
  (.mk (some 12) none (.pure (.mv (.t 0)))), 
  (.mk (some 13) none (.pure (.mv (.t 5)))), 
  (.mk (some 14) none (.pure (.ixS 1 (.t 12) (.t 13)))), 
  (.mk (some 15) none (.ld true 1 (.t 14))), 
  (.mk (some 16) none (.pure (.bin .eql (.t 11) (.t 15))))]) (.cond (.t 16) (.seq (.ops [
  (.mk (some 17) none (.pure (.mv (.t 5)))), 
  (.mk (some 4) none (.pure (.mv (.t 17))))]) .ret) .skip)))) (.ops [
  (.mk (some 18) none (.pure (.bin .add (.t 8) (.c (.i .i64 1))))), 
  (.mk (some 8) none (.pure (.mv (.t 18))))]))))))) (.seq (.ops [
  (.mk (some 4) none (.pure (.mv (.c (.i .i64 (-1))))))]) .ret))))
def F (f : Nat) : Option AFn := cond (Nat.blt f 60) (cond (Nat.blt f 47) (cond (Nat.blt f 23) (cond (Nat.blt f 17) (cond (Nat.blt f 16) (cond (Nat.beq f 13) (some fn13) none) (cond (Nat.beq f 16) (some fn16) none)) (cond (Nat.blt f 19) (cond (Nat.beq f 17) (some fn17) none) (cond (Nat.blt f 21) (cond (Nat.beq f 19) (some fn19) none) (cond (Nat.beq f 21) (some fn21) none)))) (cond (Nat.blt f 33) (cond (Nat.blt f 28) (cond (Nat.beq f 23) (some fn23) none) (cond (Nat.beq f 28) (some fn28) none)) (cond (Nat.blt f 37) (cond (Nat.beq f 33) (some fn33) none) (cond (Nat.blt f 39) (cond (Nat.beq f 37) (some fn37) none) (cond (Nat.beq f 39) (some fn39) none))))) (cond (Nat.blt f 53) (cond (Nat.blt f 49) (cond (Nat.blt f 48) (cond (Nat.beq f 47) (some fn47) none) (cond (Nat.beq f 48) (some fn48) none)) (cond (Nat.blt f 51) (cond (Nat.beq f 49) (some fn49) none) (cond (Nat.blt f 52) (cond (Nat.beq f 51) (some fn51) none) (cond (Nat.beq f 52) (some fn52) none)))) (cond (Nat.blt f 55) (cond (Nat.blt f 54) (cond (Nat.beq f 53) (some fn53) none) (cond (Nat.beq f 54) (some fn54) none)) (cond (Nat.blt f 56) (cond (Nat.beq f 55) (some fn55) none) (cond (Nat.blt f 59) (cond (Nat.beq f 56) (some fn56) none) (cond (Nat.beq f 59) (some fn59) none)))))) (cond (Nat.blt f 82) (cond (Nat.blt f 72) (cond (Nat.blt f 62) (cond (Nat.blt f 61) (cond (Nat.beq f 60) (some fn60) none) (cond (Nat.beq f 61) (some fn61) none)) (cond (Nat.blt f 68) (cond (Nat.beq f 62) (some fn62) none) (cond (Nat.blt f 71) (cond (Nat.beq f 68) (some fn68) none) (cond (Nat.beq f 71) (some fn71) none)))) (cond (Nat.blt f 76) (cond (Nat.blt f 74) (cond (Nat.beq f 72) (some fn72) none) (cond (Nat.beq f 74) (some fn74) none)) (cond (Nat.blt f 78) (cond (Nat.beq f 76) (some fn76) none) (cond (Nat.blt f 80) (cond (Nat.beq f 78) (some fn78) none) (cond (Nat.beq f 80) (some fn80) none))))) (cond (Nat.blt f 90) (cond (Nat.blt f 84) (cond (Nat.blt f 83) (cond (Nat.beq f 82) (some fn82) none) (cond (Nat.beq f 83) (some fn83) none)) (cond (Nat.blt f 85) (cond (Nat.beq f 84) (some fn84) none) (cond (Nat.blt f 86) (cond (Nat.beq f 85) (some fn85) none) (cond (Nat.beq f 86) (some fn86) none)))) (cond (Nat.blt f 93) (cond (Nat.blt f 92) (cond (Nat.beq f 90) (some fn90) none) (cond (Nat.beq f 92) (some fn92) none)) (cond (Nat.blt f 94) (cond (Nat.beq f 93) (some fn93) none) (cond (Nat.blt f 97) (cond (Nat.beq f 94) (some fn94) none) (cond (Nat.beq f 97) (some fn97) none))))))
end Go.Proofs.Ytllmlonngnhbfaa.Bed
